/-
  The document's own functions: how long a number is, the parts of bits, the nearest single.
-/
import Derived.Test.YtmkaafnoanidpaaDoorChecked
import Derived.Test.YtmkaafnoanidpaaDoorBase
import Derived.Test.YtmkaafnoanidpaaDoorSr
import Derived.Test.YtmkaafnoanidpaaDoorNr
import Derived.Deep.DeepCutAuto
namespace Go.Proofs.YtmkaafnoanidpaaDoor
open Go.RowKit Ieee

theorem div_pow_zero (m j : Nat) : m / 2 ^ j = 0 ↔ Go.bitLen m ≤ j := by
  rw [Nat.div_eq_zero_iff]
  have hp := Nat.two_pow_pos j
  constructor
  · rintro (h | h)
    · omega
    · unfold Go.bitLen
      split
      · omega
      · rename_i h0
        have := (Nat.log2_lt h0).2 h
        omega
  · intro h
    right
    have h1 := (bitLen_spec m).1
    exact Nat.lt_of_lt_of_le h1 (Nat.pow_le_pow_right (by omega) h)
theorem bitLen_le64 {m : Nat} (h : m < 18446744073709551616) : Go.bitLen m ≤ 64 := by
  have := log2_64 h
  unfold Go.bitLen
  split <;> omega

set_option maxHeartbeats 1000000 in
theorem length_any (m : Nat) (w : World) (hm : m < 18446744073709551616) :
    Calls Tryd.prog 47 #[.int .u64 m] w fun e w' => e = .returned (.int .i64 (Go.bitLen m : Nat)) ∧ w' = w := by
  obtain ⟨B, hB⟩ : ∃ B, B = Go.bitLen m := ⟨_, rfl⟩
  have hB64 := bitLen_le64 hm
  rw [← hB] at hB64 ⊢
  have HB := show Hid _ from hB
  clear hB
  go_enter Tryd.func47, Tryd.ntmps47
  go_wp2
  go_loop [0, 3] (fun v n => ∃ j : Nat, j ≤ B ∧ v = .int .u64 (m / 2 ^ j : Nat) ∧ n = .int .i64 j) (fun _ n => 64 - (intOf n).toNat)
  case atStart => exact ⟨0, by omega, by simp, rfl⟩
  case round =>
    obtain ⟨j, hj, rfl, rfl⟩ := hrel
    have hz := div_pow_zero m j
    rw [← HB.out] at hz
    have e2 : m / 2 ^ (j + 1) = m / 2 ^ j / 2 := by rw [Nat.pow_succ, Nat.div_div_eq_div_mul]
    have hle : m / 2 ^ j ≤ m := Nat.div_le_self _ _
    obtain ⟨N, hN⟩ : ∃ N, N = m / 2 ^ j := ⟨_, rfl⟩
    rw [← hN] at hz hle e2 ⊢
    clear hN
    by_cases h0 : N = 0
    · obtain rfl : j = B := by omega
      subst h0
      go_wp2
      go_ret
      exact ⟨rfl, rfl⟩
    · have hpos : (0 : Int) < (N : Int) := by omega
      have hjB : j < B := by omega
      clear hz
      go_wp2
      go_round
      case rel => exact ⟨j + 1, by omega, by rw [e2]; go_num, by go_num⟩
      case measure => simp [intOf]; omega

/-- The document's parts of bits. -/
def rawV (b : Nat) : Value := .tuple #[.int .i64 (kd b), .bool (sg b), .int .i64 (mt b), .int .i64 (ex b)]

theorem rawV_inf {b : Nat} (h : bE b = 255) (hf : bF b = 0) : rawV b = .tuple #[.int .i64 1, .bool (bN b), .int .i64 0, .int .i64 0] := by
  unfold rawV kd sg mt ex
  rw [if_pos h, if_pos hf, if_neg (by omega), if_pos h, if_pos h]
  rfl
theorem rawV_none {b : Nat} (h : bE b = 255) (hf : bF b ≠ 0) : rawV b = .tuple #[.int .i64 2, .bool false, .int .i64 0, .int .i64 0] := by
  unfold rawV kd sg mt ex
  rw [if_pos h, if_neg hf, if_pos ⟨h, hf⟩, if_pos h, if_pos h]
  rfl
theorem rawV_fin {b : Nat} (h : bE b ≠ 255) : rawV b = .tuple #[.int .i64 0, .bool (bN b), .int .i64 (mt b), .int .i64 (ex b)] := by
  unfold rawV kd sg
  rw [if_neg h, if_neg (by omega)]
  rfl

set_option maxHeartbeats 1000000 in
theorem raw_any (b : Nat) (w : World) (hb : b < 4294967296) :
    Calls Tryd.prog 27 #[.int .u32 b] w fun e w' => e = .returned (rawV b) ∧ w' = w := by
  have hE := bE_lt b
  have hF := bF_lt b
  have a1 : (b : Int) / 8388608 % 256 = (bE b : Int) := by unfold bE; omega
  have a2 : (b : Int) % 8388608 = (bF b : Int) := by unfold bF; omega
  have a3 : decide ((2147483648 : Int) ≤ (b : Int)) = bN b := by
    unfold bN
    congr 1
    apply propext
    omega
  by_cases h : bE b = 255
  · rw [h] at a1
    by_cases hf : bF b = 0
    · rw [rawV_inf h hf]
      rw [hf] at a2
      rw [show ((0 : Nat) : Int) = 0 from rfl] at a2
      clear h hf hE hF
      generalize bN b = N at *
      go_enter Tryd.func27, Tryd.ntmps27
      go_wp2
      exact bodyPost_ret (v := _) (by simp [results, Tryd.results27, go_sem]) rfl ⟨rfl, rfl⟩
    · rw [rawV_none h hf]
      have hf' : (((bF b : Nat) : Int) == 0) = false := by simp; omega
      clear h hE
      generalize bN b = N at *
      generalize bF b = F at *
      go_enter Tryd.func27, Tryd.ntmps27
      go_wp2
      exact bodyPost_ret (v := _) (by simp [results, Tryd.results27, go_sem]) rfl ⟨rfl, rfl⟩
  · rw [rawV_fin h]
    unfold mt ex
    rw [if_neg h, if_neg h]
    have h' : (((bE b : Nat) : Int) == 255) = false := by simp; omega
    by_cases h0 : bE b = 0
    · rw [if_pos h0, if_pos h0]
      rw [h0] at a1
      rw [show ((0 : Nat) : Int) = 0 from rfl] at a1
      clear h h0 hE h'
      generalize bN b = N at *
      generalize bF b = F at *
      go_enter Tryd.func27, Tryd.ntmps27
      go_wp2
      exact bodyPost_ret (v := _) (by simp [results, Tryd.results27, go_sem]) rfl ⟨rfl, rfl⟩
    · rw [if_neg h0, if_neg h0]
      have h0' : (((bE b : Nat) : Int) == 0) = false := by simp; omega
      have e1 : ((8388608 + bF b : Nat) : Int) = 8388608 + (bF b : Int) := by omega
      rw [e1]
      clear h h0 e1
      generalize bN b = N at *
      generalize bF b = F at *
      generalize bE b = E at *
      go_enter Tryd.func27, Tryd.ntmps27
      go_wp2
      exact bodyPost_ret (v := _) (by simp [results, Tryd.results27, go_sem]) rfl ⟨rfl, rfl⟩

set_option maxHeartbeats 4000000 in
set_option maxRecDepth 100000 in
theorem refnear_any (neg : Bool) (m : Nat) (e : Int) (w : World) (hm : m < 18446744073709551616) :
    Calls Tryd.prog 40 #[.bool neg, .int .u64 m, .int .i64 e] w fun r w' => r = .returned (.int .u32 (single.nearest neg m e : Nat)) ∧ w' = w := by
  rw [nearest_rung, ← refRung_eq m e hm]
  obtain ⟨S, hS⟩ : ∃ S : Nat, S = if neg then 2147483648 else 0 := ⟨_, rfl⟩
  have hw : single.word neg (refRung m e) = S + refRung m e := by rw [single_word, hS]
  rw [hw]
  have hS2 : S ≤ 2147483648 := by rw [hS]; split <;> omega
  have HS := show Hid _ from hS
  obtain ⟨R, hR⟩ : ∃ R, refRung m e = R := ⟨_, rfl⟩
  rw [hR]
  have HR := show Hid _ from hR
  clear hS hw hR
  go_enter Tryd.func40, Tryd.ntmps40
  go_upto_if 13 with fail
  go_cut [7] (fun s w' => s = .int .u32 S ∧ w' = w)
  case first =>
    cases neg
    · go_wp2_with fail
      go_meet
      case rel => exact ⟨by rw [HS.out]; rfl, rfl⟩
    · go_wp2_with fail
      go_meet
      case rel => exact ⟨by rw [HS.out]; rfl, rfl⟩
  case rest =>
    obtain ⟨rfl, hwc⟩ := hcut
    have hwc' := hwc.symm
    clear hwc
    subst hwc'
    clear HS
    by_cases h0 : m = 0
    · have hR : R = 0 := by
        have := HR.out
        unfold refRung at this
        rw [if_pos (.inl h0)] at this
        exact this.symm
      subst h0
      subst hR
      go_wp2
      go_ret
      exact ⟨by simp, rfl⟩
    have hm0 : ((m : Int) == 0) = false := by simp; omega
    by_cases h1 : e < -400
    · have hR : R = 0 := by
        have := HR.out
        unfold refRung at this
        rw [if_pos (.inr h1)] at this
        exact this.symm
      subst hR
      go_wp2
      go_ret
      exact ⟨by simp, rfl⟩
    by_cases h2 : 400 < e
    · have hR : R = 2139095040 := by
        have := HR.out
        unfold refRung at this
        rw [if_neg (by omega), if_pos h2] at this
        exact this.symm
      have HR' := show Hid _ from hR
      clear hR
      go_wp2
      go_ret
      exact ⟨by rw [HR'.out]; go_num, rfl⟩
    have hL64 := log2_64 hm
    obtain ⟨L, hL, hL'⟩ : ∃ L : Nat, L = m.log2 + 1 ∧ Go.bitLen m = L := ⟨_, rfl, by unfold Go.bitLen; rw [if_neg h0]⟩
    have hR := HR.out
    unfold refRung at hR
    rw [if_neg (by omega), if_neg h2, ← hL] at hR
    obtain ⟨T, hT⟩ : ∃ T, T = max (e + (L : Int) - 24) (-149) := ⟨_, rfl⟩
    dsimp only at hR
    rw [← hT] at hR
    have hkh := kept_hi single e h0
    have hel : lastOf single m e = T := by
      show max (e + (m.log2 : Int) - (23 : Nat)) (-149) = T
      omega
    rw [hel] at hkh
    have hroom := kept_room (E := e) (f := 23) (l := T) hm h0 hL (by omega) (by omega)
    obtain ⟨q, hq⟩ : ∃ q, q = rne (m * 2 ^ (e - T).toNat) (T - e).toNat := ⟨_, rfl⟩
    rw [← hq] at hkh hR
    have HQ := show Hid _ from hq
    have HM := show Hid _ from hroom
    have HT := show Hid _ from hT
    have hqb : q ≤ 16777216 := hkh
    have ht1 : -149 ≤ T := by omega
    have ht2 : T ≤ 440 := by omega
    have hln : ∀ X, Calls Tryd.prog 47 #[.int .u64 m] X fun e w' => e = .returned (.int .i64 (L : Int)) ∧ X = w' := fun X => by rw [← hL']; exact (length_any m X hm).mono fun e w' h => ⟨h.1, h.2.symm⟩
    have HL := show Hid _ from hln
    have hL2 : L ≤ 64 := by omega
    have HR2 := show Hid _ from hR
    clear hq hT hel hkh hroom hln hL' hL hL64 HR hR
    go_upto_if 31 with (refine (HL.out _).mono ?_; rintro r X ⟨rfl, rfl⟩)
    go_cut [8] (fun t w' => t = .int .i64 T ∧ w' = w)
    case first =>
      rcases Int.lt_or_le (e + (L : Int) - 24) (-149) with hlt | hlt
      · go_wp2_with fail
        go_meet
        case rel => exact ⟨by rw [HT.out, Int.max_eq_right (by omega)], rfl⟩
      · go_wp2_with fail
        go_meet
        case rel => exact ⟨by rw [HT.out, Int.max_eq_left hlt], rfl⟩
    case rest =>
      obtain ⟨rfl, hwc⟩ := hcut
      have hwc' := hwc.symm
      clear hwc
      subst hwc'
      go_upto_if 36 with fail
      generalize hK : T - e = K
      have HK := show Hid _ from hK
      have hK1 : -600 ≤ K := by omega
      have hK2 : K ≤ 900 := by omega
      clear hK
      go_cut [9] (fun u w' => u = .int .u64 q ∧ w' = w)
      case first =>
        rcases Int.lt_or_le 0 K with hp | hp
        · rcases Int.lt_or_le 64 K with hp2 | hp2
          · go_wp2_with fail
            go_meet
            case rel =>
              refine ⟨?_, rfl⟩
              have := HK.out
              have := log2_64 hm
              rw [HQ.out, show (e - T).toNat = 0 by omega, Nat.pow_zero, Nat.mul_one, rne_far (by omega)]
              rfl
          · obtain ⟨d, rfl⟩ : ∃ d : Nat, K = (d : Int) := ⟨K.toNat, by omega⟩
            have hq : q = rne m d := by
              have := HK.out
              rw [HQ.out, show (e - T).toNat = 0 by omega, Nat.pow_zero, Nat.mul_one, show (T - e).toNat = d by omega]
            obtain ⟨Q, hQ⟩ : ∃ Q, Q = m / 2 ^ d := ⟨_, rfl⟩
            obtain ⟨r, hr⟩ : ∃ r, r = m % 2 ^ d := ⟨_, rfl⟩
            obtain ⟨H, hH⟩ : ∃ H, H = 2 ^ (d - 1) := ⟨_, rfl⟩
            have hH2 : 2 * H = 2 ^ d := by rw [hH, show d = d - 1 + 1 by omega, Nat.pow_succ, Nat.add_sub_cancel, Nat.mul_comm]
            have hp64 : 2 ^ d ≤ 2 ^ 64 := Nat.pow_le_pow_right (by omega) (by omega)
            have hdm := Nat.div_add_mod m (2 ^ d)
            have hrl : m % 2 ^ d < 2 ^ d := Nat.mod_lt _ (Nat.two_pow_pos d)
            rw [← hQ, ← hr] at hdm
            rw [← hr] at hrl
            have hc := rne_cases m d Q r H hQ hr hH2
            rw [← hq] at hc
            have hQ2 : Q < 9223372036854775808 := by
              rw [hQ, Nat.div_lt_iff_lt_mul (Nat.two_pow_pos d)]
              have : 2 ^ 1 ≤ 2 ^ d := Nat.pow_le_pow_right (by omega) (by omega)
              have : 9223372036854775808 * 2 ^ 1 ≤ 9223372036854775808 * 2 ^ d := Nat.mul_le_mul_left _ this
              omega
            have a1 : (m : Int) / 2 ^ d = (Q : Int) := by rw [hQ]; simp
            obtain ⟨P, hP⟩ : ∃ P, P = Q * 2 ^ d := ⟨_, rfl⟩
            rw [Nat.mul_comm, ← hP] at hdm
            have a2 : IntKind.u64.wrap ((Q : Int) * 2 ^ d) = (P : Int) := by
              have : (Q : Int) * 2 ^ d = (P : Int) := by rw [hP]; simp
              rw [IntKind.wrap_u64, this]
              omega
            have a3 : IntKind.u64.wrap ((m : Int) - (P : Int)) = (r : Int) := by rw [IntKind.wrap_u64]; omega
            have a4 : IntKind.u64.wrap ((2 : Int) ^ (d - 1)) = (H : Int) := by
              have : (2 : Int) ^ (d - 1) = (H : Int) := by rw [hH]; simp
              rw [IntKind.wrap_u64, this]
              omega
            have a5 : (Q : Int) % 2 = ((Q % 2 : Nat) : Int) := by omega
            by_cases h64 : d = 64
            · subst h64
              have hQ0 : Q = 0 := by rw [hQ]; exact Nat.div_eq_of_lt hm
              have hrm : r = m := by rw [hr]; exact Nat.mod_eq_of_lt hm
              have hH0 : H = 9223372036854775808 := hH
              clear a1 a2 a3 a4 a5 hq hQ hr hH hH2 hp64 hdm hrl hP hQ2
              subst hQ0 hrm hH0
              rcases Nat.lt_trichotomy r 9223372036854775808 with hx | hx | hx
              · have hq0 : q = 0 := by omega
                have hd1 : decide ((9223372036854775808 : Int) < (r : Int)) = false := decide_eq_false (by omega)
                have hd2 : ((r : Int) == 9223372036854775808) = false := by simp only [beq_eq_false_iff_ne, ne_eq]; omega
                clear hc hx
                subst hq0
                go_wp2_with fail
                go_meet
                case rel => exact ⟨rfl, rfl⟩
              · have hq0 : q = 0 := by omega
                clear hc
                have hd1 : decide ((9223372036854775808 : Int) < (r : Int)) = false := decide_eq_false (by omega)
                have hd2 : ((r : Int) == 9223372036854775808) = true := by rw [hx]; rfl
                have hx1 : (r : Int) ≤ 9223372036854775808 := by omega
                have hx2 : (r : Int) = 9223372036854775808 := by omega
                clear hx
                subst hq0
                go_wp2_with fail
                go_meet
                case rel => exact ⟨rfl, rfl⟩
              · have hq0 : q = 1 := by omega
                have hx' : (9223372036854775808 : Int) < (r : Int) := by omega
                clear hc hx
                subst hq0
                go_wp2_with fail
                go_meet
                case rel => exact ⟨rfl, rfl⟩
            · have hd64 : (d : Int) < 64 := by omega
              clear hq hQ hr hH hH2 hp64 hdm hrl hP h64
              rcases hc with ⟨hv, hc | ⟨rfl, hc⟩⟩ | ⟨hv, hc | ⟨rfl, hc⟩⟩
              · have c1 : (H : Int) < (r : Int) := by omega
                clear hc
                subst hv
                go_wp2_with fail
                go_meet
                case rel => exact ⟨by simp, rfl⟩
              · have c3 : ((Q % 2 : Nat) : Int) = 1 := by omega
                clear hc
                subst hv
                go_wp2_with fail
                go_meet
                case rel => exact ⟨by simp, rfl⟩
              · have c1 : (r : Int) < (H : Int) := by omega
                clear hc
                subst hv
                go_wp2_with fail
                go_meet
                case rel => exact ⟨by simp, rfl⟩
              · have c3 : ((Q % 2 : Nat) : Int) = 0 := by omega
                clear hc
                subst hv
                go_wp2_with fail
                go_meet
                case rel => exact ⟨by simp, rfl⟩
        · obtain ⟨d, rfl⟩ : ∃ d : Nat, K = -(d : Int) := ⟨(-K).toNat, by omega⟩
          have hq : q = m * 2 ^ d := by
            have := HK.out
            rw [HQ.out, show (T - e).toNat = 0 by omega, rne_zero, show (e - T).toNat = d by omega]
          have hr := HM.out
          have a1 : IntKind.u64.wrap ((m : Int) * 2 ^ d) = (q : Int) := by
            have e2 : (m : Int) * 2 ^ d = ((m * 2 ^ d : Nat) : Int) := by simp
            have := HK.out
            rw [show (e - T).toNat = d by omega] at hr
            rw [IntKind.wrap_u64, e2, hq]
            omega
          have hmin : min d 64 = d := by have := HK.out; omega
          clear hq hr
          go_wp2_with fail
          go_meet
          case rel => exact ⟨rfl, rfl⟩
      case rest =>
        obtain ⟨rfl, hwc⟩ := hcut
        have hwc' := hwc.symm
        clear hwc
        subst hwc'
        have hR := HR2.out
        clear HQ HM HT HL HR2 HK hK1 hK2 hL2 hm0 h0 hm h1 h2
        obtain ⟨t, rfl⟩ : ∃ t : Nat, T = (t : Int) - 149 := ⟨(T + 149).toNat, by omega⟩
        rw [show ((t : Int) - 149 + 150).toNat = t + 1 by omega, show ((t : Int) - 149 + 1 + 150).toNat = t + 2 by omega] at hR
        by_cases g1 : q = 16777216
        · rw [if_pos g1] at hR
          subst g1
          by_cases g : 253 ≤ t
          · rw [if_pos (by omega)] at hR
            have HRR := show Hid _ from hR
            clear hR
            go_wp2
            go_ret
            exact ⟨by rw [← HRR.out]; go_num, rfl⟩
          · rw [if_neg (by omega)] at hR
            have HRR := show Hid _ from hR
            clear hR
            go_wp2
            go_ret
            exact ⟨by rw [← HRR.out]; go_num, rfl⟩
        · rw [if_neg g1] at hR
          have g1' : ((q : Int) == 16777216) = false := by simp; omega
          by_cases g2 : q < 8388608
          · rw [if_pos g2] at hR
            have hd1 : decide ((q : Int) < 8388608) = true := decide_eq_true (by omega)
            have HRR := show Hid _ from hR
            clear hR
            go_wp2
            go_ret
            exact ⟨by rw [← HRR.out]; go_num, rfl⟩
          · rw [if_neg g2] at hR
            obtain ⟨p, rfl⟩ : ∃ p, q = p + 8388608 := ⟨q - 8388608, by omega⟩
            have hp1 : p < 8388608 := by omega
            rw [Nat.add_sub_cancel] at hR
            rw [show ((p + 8388608 : Nat) : Int) = (p : Int) + 8388608 by omega] at g1' ⊢
            have hd1 : decide ((p : Int) + 8388608 < 8388608) = false := decide_eq_false (by omega)
            clear g1 g2 hqb
            go_upto_if 83 with fail
            go_upto_region 28 with fail
            clear hd1 g1'
            go_upto_if 90 with fail
            by_cases g : 254 ≤ t
            · rw [if_pos (by omega)] at hR
              have HRR := show Hid _ from hR
              clear hR
              go_wp2
              go_ret
              exact ⟨by rw [← HRR.out]; go_num, rfl⟩
            · rw [if_neg (by omega)] at hR
              have HRR := show Hid _ from hR
              clear hR
              go_wp2
              go_ret
              exact ⟨by rw [← HRR.out]; go_num, rfl⟩

end Go.Proofs.YtmkaafnoanidpaaDoor
