/-
  Which of two sizes is less, by the document.
-/
import Derived.Test.YtagbjlkpmjbfnabDoorKn
namespace Go.Proofs.YtagbjlkpmjbfnabDoor
open Go.RowKit Ieee

set_option maxHeartbeats 400000 in
theorem sgn_any (a b : Int) (w : World) :
    Calls Tryd.prog 46 #[.int .i64 a, .int .i64 b] w fun e w' => e = .returned (.int .i64 (cmp3 a b)) ∧ w = w' := by
  unfold cmp3
  by_cases h1 : a < b
  · rw [if_pos h1]
    go_enter Tryd.func46, Tryd.ntmps46
    go_wp2
    go_ret
    exact ⟨rfl, rfl⟩
  · rw [if_neg h1]
    by_cases h2 : b < a
    · rw [if_pos h2]
      go_enter Tryd.func46, Tryd.ntmps46
      go_wp2
      go_ret
      exact ⟨rfl, rfl⟩
    · rw [if_neg h2]
      go_enter Tryd.func46, Tryd.ntmps46
      go_wp2
      go_ret
      exact ⟨rfl, rfl⟩

theorem len24 {m : Nat} (h : m < 16777216) (h0 : m ≠ 0) : 1 ≤ Go.bitLen m ∧ Go.bitLen m ≤ 24 := by
  unfold Go.bitLen
  rw [if_neg h0]
  have := (Nat.log2_lt (n := m) (k := 24) h0).2 h
  omega

theorem szv_pow (m d : Nat) (e f : Int) (he : e = f + d) (hf : -149 ≤ f) : szv m e = szv (m * 2 ^ d) f := by
  unfold szv
  rw [show (e + 149).toNat = d + (f + 149).toNat by omega, Nat.pow_add, Nat.mul_assoc]

set_option maxHeartbeats 4000000 in
set_option maxRecDepth 100000 in
theorem ahead_any (m n : Nat) (e f : Int) (w : World) (hm : m < 16777216) (hn : n < 16777216) (he : -149 ≤ e) (he2 : e ≤ 1000) (hf : -149 ≤ f) (hf2 : f ≤ 1000) :
    Calls Tryd.prog 28 #[.int .i64 m, .int .i64 e, .int .i64 n, .int .i64 f] w fun r w' => r = .returned (.int .i64 (cmp3 (szv m e) (szv n f))) ∧ w = w' := by
  by_cases h0 : m = 0
  · rw [szv_zero m n e f (.inl h0)]
    subst h0
    go_enter Tryd.func28, Tryd.ntmps28
    go_wp2_with fail
    refine (sgn_any _ _ _).mono ?_
    rintro r X ⟨rfl, rfl⟩
    go_wp2
    go_ret
    exact ⟨rfl, rfl⟩
  have h0' : ((m : Int) == 0) = false := by simp; omega
  by_cases h1 : n = 0
  · rw [szv_zero m n e f (.inr h1)]
    subst h1
    go_enter Tryd.func28, Tryd.ntmps28
    go_wp2_with fail
    refine (sgn_any _ _ _).mono ?_
    rintro r X ⟨rfl, rfl⟩
    go_wp2
    go_ret
    exact ⟨rfl, rfl⟩
  have h1' : ((n : Int) == 0) = false := by simp; omega
  obtain ⟨lm1, lm2⟩ := len24 hm h0
  obtain ⟨ln1, ln2⟩ := len24 hn h1
  have hgt := fun h => szv_len (m := m) (n := n) (e := e) (f := f) h1 he hf h
  have hlt := fun h => szv_len (m := n) (n := m) (e := f) (f := e) h0 hf he h
  have hlm : ∀ X, Calls Tryd.prog 47 #[.int .u64 m] X fun e w' => e = .returned (.int .i64 (Go.bitLen m : Nat)) ∧ X = w' := fun X => (length_any m X (by omega)).mono fun _ _ h => ⟨h.1, h.2.symm⟩
  have hln : ∀ X, Calls Tryd.prog 47 #[.int .u64 n] X fun e w' => e = .returned (.int .i64 (Go.bitLen n : Nat)) ∧ X = w' := fun X => (length_any n X (by omega)).mono fun _ _ h => ⟨h.1, h.2.symm⟩
  generalize Go.bitLen m = A at *
  generalize Go.bitLen n = B at *
  have HM := show Hid _ from hlm
  have HN := show Hid _ from hln
  obtain ⟨C, hC⟩ : ∃ C, C = cmp3 (szv m e) (szv n f) := ⟨_, rfl⟩
  rw [← hC]
  by_cases hne : (A : Int) + e = (B : Int) + f
  · rcases Int.le_total f e with hfe | hfe
    · obtain ⟨D, hD⟩ : ∃ D : Nat, e = f + D := ⟨(e - f).toNat, by omega⟩
      have hD23 : D ≤ 23 := by omega
      have hV : C = cmp3 ((m * 2 ^ D : Nat) : Int) (n : Int) := by rw [hC, szv_pow m D e f hD hf, szv_cmp]
      have HV := show Hid _ from hV
      subst hD
      have hBA : (B : Int) = (A : Int) + (D : Int) := by omega
      obtain rfl : B = A + D := by omega
      have hbq : ((A : Int) + (f + (D : Int)) != (A : Int) + (D : Int) + f) = false := by simp; omega
      clear hV hC hgt hlt hlm hln hne hfe hBA ln1 he
      have hpw : 2 ^ D ≤ 2 ^ 23 := Nat.pow_le_pow_right (by omega) hD23
      go_enter Tryd.func28, Tryd.ntmps28
      go_wp2_with fail
      refine (HM.out _).mono ?_
      rintro r X ⟨rfl, rfl⟩
      go_wp2_with fail
      refine (HN.out _).mono ?_
      rintro r X ⟨rfl, rfl⟩
      go_wp2_with fail
      go_loop [0, 1] (fun mv ev => ∃ j : Nat, j ≤ D ∧ mv = .int .i64 (m * 2 ^ j : Nat) ∧ ev = .int .i64 (f + (D - j : Nat))) (fun _ ev => (intOf ev - f).toNat)
      case atStart => exact ⟨0, by omega, by simp, by simp⟩
      case round =>
        obtain ⟨j, hj, rfl, rfl⟩ := hrel
        have hjp : 2 ^ j ≤ 2 ^ D := Nat.pow_le_pow_right (by omega) hj
        have hmj : m * 2 ^ j ≤ 16777216 * 2 ^ 23 := Nat.mul_le_mul (by omega) (by omega)
        obtain ⟨P, hP⟩ : ∃ P, P = m * 2 ^ j := ⟨_, rfl⟩
        rw [← hP] at hmj ⊢
        by_cases hjD : j = D
        · subst hjD
          rw [← hP] at HV
          rw [show ((j - j : Nat) : Int) = 0 by omega, Int.add_zero]
          clear hP hjp hpw
          go_wp2
          go_loop [2, 3] (fun nv fv => nv = .int .i64 n ∧ fv = .int .i64 f) (fun _ _ => 0)
          case atStart => exact ⟨rfl, rfl⟩
          case round =>
            obtain ⟨rfl, rfl⟩ := hrel
            go_wp2_with fail
            refine (sgn_any _ _ _).mono ?_
            rintro r X ⟨rfl, rfl⟩
            go_wp2
            go_ret
            exact ⟨by rw [HV.out]; rfl, rfl⟩
        · have e2 : m * 2 ^ (j + 1) = 2 * P := by rw [Nat.pow_succ, hP]; rw [Nat.mul_comm 2, Nat.mul_assoc]
          obtain ⟨t, ht⟩ : ∃ t : Nat, D = j + 1 + t := ⟨D - j - 1, by omega⟩
          rw [show ((D - j : Nat) : Int) = (t : Int) + 1 by omega]
          clear hP hjp hpw
          go_wp2
          go_round
          case rel => exact ⟨j + 1, by omega, by rw [e2]; go_num, by rw [show D - (j + 1) = t by omega]; go_num⟩
          case measure => simp [intOf]; omega
    · obtain ⟨D, hD⟩ : ∃ D : Nat, f = e + D := ⟨(f - e).toNat, by omega⟩
      have hD23 : D ≤ 23 := by omega
      have hV : C = cmp3 (m : Int) ((n * 2 ^ D : Nat) : Int) := by rw [hC, szv_pow n D f e hD he, szv_cmp]
      have HV := show Hid _ from hV
      subst hD
      obtain rfl : A = B + D := by omega
      have hbq : ((B : Int) + (D : Int) + e != (B : Int) + (e + (D : Int))) = false := by simp; omega
      clear hV hC hgt hlt hlm hln hne hfe lm1 hf
      have hpw : 2 ^ D ≤ 2 ^ 23 := Nat.pow_le_pow_right (by omega) hD23
      go_enter Tryd.func28, Tryd.ntmps28
      go_wp2_with fail
      refine (HM.out _).mono ?_
      rintro r X ⟨rfl, rfl⟩
      go_wp2_with fail
      refine (HN.out _).mono ?_
      rintro r X ⟨rfl, rfl⟩
      go_wp2_with fail
      go_loop [0, 1] (fun mv ev => mv = .int .i64 m ∧ ev = .int .i64 e) (fun _ _ => 0)
      case atStart => exact ⟨rfl, rfl⟩
      case round =>
        obtain ⟨rfl, rfl⟩ := hrel
        have hle : e ≤ e + (D : Int) := by omega
        go_wp2
        clear hle
        go_loop [2, 3] (fun nv fv => ∃ j : Nat, j ≤ D ∧ nv = .int .i64 (n * 2 ^ j : Nat) ∧ fv = .int .i64 (e + (D - j : Nat))) (fun _ fv => (intOf fv - e).toNat)
        case atStart => exact ⟨0, by omega, by simp, by simp⟩
        case round =>
          obtain ⟨j, hj, rfl, rfl⟩ := hrel
          have hjp : 2 ^ j ≤ 2 ^ D := Nat.pow_le_pow_right (by omega) hj
          have hmj : n * 2 ^ j ≤ 16777216 * 2 ^ 23 := Nat.mul_le_mul (by omega) (by omega)
          obtain ⟨P, hP⟩ : ∃ P, P = n * 2 ^ j := ⟨_, rfl⟩
          rw [← hP] at hmj ⊢
          by_cases hjD : j = D
          · subst hjD
            rw [← hP] at HV
            rw [show ((j - j : Nat) : Int) = 0 by omega, Int.add_zero]
            clear hP hjp hpw
            go_wp2_with fail
            refine (sgn_any _ _ _).mono ?_
            rintro r X ⟨rfl, rfl⟩
            go_wp2
            go_ret
            exact ⟨by rw [HV.out]; rfl, rfl⟩
          · have e2 : n * 2 ^ (j + 1) = 2 * P := by rw [Nat.pow_succ, hP]; rw [Nat.mul_comm 2, Nat.mul_assoc]
            obtain ⟨t, ht⟩ : ∃ t : Nat, D = j + 1 + t := ⟨D - j - 1, by omega⟩
            rw [show ((D - j : Nat) : Int) = (t : Int) + 1 by omega]
            clear hP hjp hpw
            go_wp2
            go_round
            case rel => exact ⟨j + 1, by omega, by rw [e2]; go_num, by rw [show D - (j + 1) = t by omega]; go_num⟩
            case measure => simp [intOf]; omega
  · have hV : C = cmp3 ((A : Int) + e) ((B : Int) + f) := by
      rw [hC]
      unfold cmp3
      rcases Int.lt_or_gt_of_ne hne with h | h
      · have := hgt h
        rw [if_pos (by omega), if_pos h]
      · have := hlt h
        rw [if_neg (by omega), if_pos (by omega), if_neg (by omega), if_pos h]
    have HV := show Hid _ from hV
    have hbq : ((A : Int) + e != (B : Int) + f) = true := by simp; omega
    clear hV hC hgt hlt hlm hln hne
    go_enter Tryd.func28, Tryd.ntmps28
    go_wp2_with fail
    refine (HM.out _).mono ?_
    rintro r X ⟨rfl, rfl⟩
    go_wp2_with fail
    refine (HN.out _).mono ?_
    rintro r X ⟨rfl, rfl⟩
    go_wp2_with fail
    refine (sgn_any _ _ _).mono ?_
    rintro r X ⟨rfl, rfl⟩
    go_wp2
    go_ret
    exact ⟨by rw [HV.out]; rfl, rfl⟩

end Go.Proofs.YtagbjlkpmjbfnabDoor
