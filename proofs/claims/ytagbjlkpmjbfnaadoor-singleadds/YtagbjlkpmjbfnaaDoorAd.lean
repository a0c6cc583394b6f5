/-
  Sums of the document.
-/
import Derived.Test.YtagbjlkpmjbfnaaDoorAh
import Derived.Test.YtagbjlkpmjbfnaaDoorSb
namespace Go.Proofs.YtagbjlkpmjbfnaaDoor
open Go.RowKit Ieee

set_option maxHeartbeats 2000000 in
set_option maxRecDepth 100000 in
/-- Both finite, neither 0: the greater one is made the first. -/
theorem refAdd_fin (a b : Nat) (w : World) (ha : a < 4294967296) (hb : b < 4294967296) (ka : bE a ≠ 255) (kb : bE b ≠ 255) (za : mt a ≠ 0) (zb : mt b ≠ 0) :
    Calls Tryd.prog 17 #[.int .u32 a, .int .u32 b] w fun e w' => e = .returned (.int .u32 (toldOf (single.add a b) : Nat)) ∧ w' = w := by
  have HA := show Hid _ from raw_fin a ha ka
  have HB := show Hid _ from raw_fin b hb kb
  have hah := fun X => ahead_any (mt a) (mt b) (ex a) (ex b) X (mt_lt a) (mt_lt b) (ex_bounds a).1 (by have := (ex_bounds a).2; omega) (ex_bounds b).1 (by have := (ex_bounds b).2; omega)
  have HC := show Hid _ from hah
  obtain ⟨S, T, M, N, d, x, y, V, F, hadd, hM2, hN2, hF1, hF2, hE2, hx, hy, hle, hN1, v3, v4, v5, hcs⟩ := add_ord a b ha hb ka kb za zb
  rw [hadd, show toldOf (some V) = V from rfl]
  have hx2 : x < 16777216 * 2 ^ 33 := by rw [hx]; exact Nat.mul_lt_mul_of_pos_right hM2 (by decide)
  have HV := show Hid _ from And.intro v3 (And.intro v4 v5)
  have HCS := show Hid _ from hcs
  have HX := show Hid _ from hx
  have HY := show Hid _ from hy
  have za' : ((mt a : Int) == 0) = false := by simp; omega
  have zb' : ((mt b : Int) == 0) = false := by simp; omega
  clear hcs hx hy hadd hah v3 v4 v5
  generalize cmp3 (szv (mt a) (ex a)) (szv (mt b) (ex b)) = C at *
  generalize bN a = Na at *
  generalize bN b = Nb at *
  generalize mt a = Ma at *
  generalize mt b = Mb at *
  generalize ex a = Ea at *
  generalize ex b = Eb at *
  clear ka kb za zb ha hb
  go_enter Tryd.func17, Tryd.ntmps17
  go_wp2_with fail
  refine (HA.out _).mono ?_
  rintro r X ⟨rfl, rfl⟩
  go_wp2_with fail
  refine (HB.out _).mono ?_
  rintro r X ⟨rfl, rfl⟩
  go_upto_if 76 with (go_at_call 27; refine (HC.out _).mono ?_; rintro r X ⟨rfl, rfl⟩)
  go_cut [6, 7, 8, 10, 11, 12] (fun s1 m1 e1 t1 n1 f1 w' => s1 = .bool S ∧ m1 = .int .i64 M ∧ e1 = .int .i64 (F + d) ∧ t1 = .bool T ∧ n1 = .int .i64 N ∧ f1 = .int .i64 F ∧ w' = w)
  case first =>
    rcases HCS.out with ⟨hc, rfl, rfl, rfl, rfl, rfl, rfl⟩ | ⟨hc, rfl, rfl, rfl, rfl, rfl, rfl⟩
    · go_wp2_with fail
      go_meet
      case rel => exact ⟨rfl, rfl, rfl, rfl, rfl, rfl, rfl⟩
    · go_wp2_with fail
      go_meet
      case rel => exact ⟨rfl, rfl, rfl, rfl, rfl, rfl, rfl⟩
  case rest =>
    obtain ⟨rfl, rfl, rfl, rfl, rfl, rfl, hwc⟩ := hcut
    have hwc' := hwc.symm
    clear hwc
    subst hwc'
    clear HA HB HC HCS za' zb'
    have ax : IntKind.u64.wrap ((M : Int) * 8589934592) = (x : Int) := by rw [IntKind.wrap_u64, HX.out]; omega
    have ax' : (M : Int) * 8589934592 = (x : Int) := by rw [HX.out]; omega
    go_upto_if 90 with fail
    generalize hK : F + (d : Int) - F = K
    obtain rfl : K = (d : Int) := by omega
    clear hK
    go_cut [14] (fun y1 w' => y1 = .int .u64 y ∧ w' = w)
    case first =>
      have hy := HY.out
      unfold lesser at hy
      clear HV HX ax ax' HY hx2 hle
      by_cases h33 : d ≤ 33
      · rw [if_pos h33] at hy
        obtain ⟨k, hk⟩ : ∃ k, d + k = 33 := ⟨33 - d, by omega⟩
        rw [show 33 - d = k by omega] at hy
        have a0 : (33 : Int) - (d : Int) = (k : Int) := by omega
        have hk33 : 2 ^ k ≤ 2 ^ 33 := Nat.pow_le_pow_right (by omega) (by omega)
        have hyb : y < 16777216 * 2 ^ 33 := by
          rw [hy]
          exact Nat.lt_of_le_of_lt (Nat.mul_le_mul_left _ hk33) (Nat.mul_lt_mul_of_pos_right hN2 (by decide))
        have a1 : IntKind.u64.wrap ((N : Int) * 2 ^ k) = (y : Int) := by
          have e2 : (N : Int) * 2 ^ k = ((N * 2 ^ k : Nat) : Int) := by simp
          rw [IntKind.wrap_u64, e2, ← hy]
          omega
        have hmin : min k 64 = k := by omega
        have hd33 : (d : Int) ≤ 33 := by omega
        clear hy hk33 hyb hk h33
        go_wp2_with fail
        go_meet
        case rel => exact ⟨rfl, rfl⟩
      · rw [if_neg h33] at hy
        by_cases h64 : d < 64
        · obtain ⟨t, ht⟩ : ∃ t, d = 33 + t := ⟨d - 33, by omega⟩
          rw [show d - 33 = t by omega] at hy
          have a0 : (d : Int) - 33 = (t : Int) := by omega
          have hmin : min t 64 = t := by omega
          obtain ⟨Q, hQ⟩ : ∃ Q, Q = N / 2 ^ t := ⟨_, rfl⟩
          have hQl : Q ≤ N := by rw [hQ]; exact Nat.div_le_self _ _
          have a1 : (N : Int) / 2 ^ t = (Q : Int) := by rw [hQ]; simp
          have hdm := Nat.div_add_mod N (2 ^ t)
          rw [← hQ, Nat.mul_comm] at hdm
          obtain ⟨P, hP⟩ : ∃ P, P = Q * 2 ^ t := ⟨_, rfl⟩
          rw [← hP] at hdm
          have a2 : IntKind.u64.wrap ((Q : Int) * 2 ^ t) = (P : Int) := by
            have e2 : (Q : Int) * 2 ^ t = (P : Int) := by rw [hP]; simp
            rw [IntKind.wrap_u64, e2]
            omega
          rw [← hQ] at hy
          have a3 : bits .or .u64 (Q : Int) 1 = ((Q + (1 - Q % 2) : Nat) : Int) := by
            have := bits_or_u64_nat Q 1 (by omega) (by omega)
            rw [show ((1 : Nat) : Int) = 1 from rfl] at this
            rw [this]
            congr 1
            rcases Nat.mod_two_eq_zero_or_one Q with g | g
            · have := Nat.shiftLeft_add_eq_or_of_lt (i := 1) (b := 1) (by omega) (Q / 2)
              rw [Nat.shiftLeft_eq, show Q / 2 * 2 ^ 1 = Q by omega] at this
              rw [← this]; omega
            · have h1 := Nat.shiftLeft_add_eq_or_of_lt (i := 1) (b := 1) (by omega) (Q / 2)
              rw [Nat.shiftLeft_eq, show Q / 2 * 2 ^ 1 = Q - 1 by omega, show Q - 1 + 1 = Q by omega] at h1
              have h2 : Q ||| 1 = Q := by
                conv => lhs; rw [h1]
                rw [Nat.or_assoc, Nat.or_self, ← h1]
              rw [h2]; omega
          have hd33 : (33 : Int) < (d : Int) := by omega
          have hd64 : (d : Int) < 64 := by omega
          by_cases hz : N % 2 ^ t = 0
          · have hy' : y = Q := by rw [hy, hz]; rfl
            have hPN : P = N := by omega
            have a4 : ((P : Int) == (N : Int)) = true := by rw [hPN]; simp
            subst hy'
            clear hy hz hPN hdm hP hQ h33 h64 ht
            go_wp2_with fail
            go_meet
            case rel => exact ⟨rfl, rfl⟩
          · have hy' : y = Q + (1 - Q % 2) := by rw [hy, decide_eq_true hz]; rfl
            have a4 : ((P : Int) == (N : Int)) = false := by simp; omega
            rw [← hy'] at a3
            clear hy hy' hz hdm hP hQ h33 h64 ht
            go_wp2_with fail
            go_meet
            case rel => exact ⟨rfl, rfl⟩
        · have hp : 2 ^ 24 ≤ 2 ^ (d - 33) := Nat.pow_le_pow_right (by omega) (by omega)
          have hy' : y = 1 := by
            rw [hy, Nat.div_eq_of_lt (by omega), Nat.mod_eq_of_lt (by omega), decide_eq_true (by omega)]
            rfl
          have hd64 : (64 : Int) ≤ (d : Int) := by omega
          subst hy'
          clear hp hy h33 h64
          go_wp2_with fail
          go_meet
          case rel => exact ⟨rfl, rfl⟩
    case rest =>
      obtain ⟨rfl, hwc⟩ := hcut
      have hwc' := hwc.symm
      clear hwc
      subst hwc'
      have hx3 : x < 144115188075855872 := hx2
      by_cases hST : S = T
      · subst hST
        have hv := HV.out.1 rfl
        have HN := show Hid _ from refnear_all S (x + y) (F + d - 33) (by omega)
        rw [← hv] at HN
        clear hv HV HX HY ax ax' hx2
        go_wp2_with (go_at_call 23; refine (HN.out _).mono ?_; rintro r X ⟨rfl, rfl⟩)
        go_ret
        exact ⟨rfl, rfl⟩
      · have hST' : (S == T) = false := by simpa using hST
        by_cases hxy : x = y
        · have hv := HV.out.2.1 hST hxy
          have hxy' : ((x : Int) == (y : Int)) = true := by rw [hxy]; simp
          subst hv
          clear HV HX HY ax ax' hx2 hST
          go_wp2
          go_ret
          exact ⟨rfl, rfl⟩
        · have hv := HV.out.2.2 hST hxy
          have hxy' : ((x : Int) == (y : Int)) = false := by simp; omega
          obtain ⟨z, hz⟩ : ∃ z, x = y + z := ⟨x - y, by omega⟩
          have az : (x : Int) - (y : Int) = (z : Int) := by omega
          have HN := show Hid _ from refnear_all S z (F + d - 33) (by omega)
          rw [show x - y = z by omega] at hv
          rw [← hv] at HN
          clear hv HV HX HY ax ax' hx2 hST hz hxy
          go_wp2_with (go_at_call 23; refine (HN.out _).mono ?_; rintro r X ⟨rfl, rfl⟩)
          go_ret
          exact ⟨rfl, rfl⟩

end Go.Proofs.YtagbjlkpmjbfnaaDoor
