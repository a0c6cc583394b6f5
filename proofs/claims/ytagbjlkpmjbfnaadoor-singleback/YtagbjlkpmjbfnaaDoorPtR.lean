/-
  The document's Parts.
-/
import Derived.Test.YtagbjlkpmjbfnaaDoorPtN
import Derived.Test.YtagbjlkpmjbfnaaDoorKn
namespace Go.Proofs.YtagbjlkpmjbfnaaDoor
open Go.RowKit Ieee

theorem half_of (z Q j : Nat) (h : j < z) : 2 ^ (z - j) * Q = 2 * (2 ^ (z - (j + 1)) * Q) := by
  rw [show z - j = z - (j + 1) + 1 by omega, Nat.pow_succ, Nat.mul_comm _ 2, Nat.mul_assoc]

set_option maxHeartbeats 1000000 in
theorem refParts_any (b : Nat) (w : World) (hb : b < 4294967296) :
    Calls Tryd.prog 10 #[.int .u32 b] w fun e w' => e = .returned (ptOf (single.read b)).val ∧ Fresh w w' := by
  rcases kinds b with k | k | k
  · rw [read_nan b hb k.1 k.2]
    have HA := show Hid _ from raw_none b hb k
    clear k
    unfold ptOf Pt.val
    go_enter Tryd.func10, Tryd.ntmps10
    go_wp2_with fail
    refine (HA.out _).mono ?_
    rintro r X ⟨rfl, rfl⟩
    go_wp2
    exact bodyPost_ret (v := _) (by simp [results, Tryd.results10, go_sem]) rfl ⟨rfl, (Kept.refl _ _).alloc _⟩
  · rw [read_inf b hb k.1 k.2]
    have HA := show Hid _ from raw_inf b hb k
    clear k
    unfold ptOf Pt.val
    generalize bN b = N at *
    go_enter Tryd.func10, Tryd.ntmps10
    go_wp2_with fail
    refine (HA.out _).mono ?_
    rintro r X ⟨rfl, rfl⟩
    go_wp2
    exact bodyPost_ret (v := _) (by simp [results, Tryd.results10, go_sem]) rfl ⟨rfl, (Kept.refl _ _).alloc _⟩
  · rw [read_fin b hb k]
    have HA := show Hid _ from raw_fin b hb k
    clear k
    unfold ptOf Pt.val
    have hm := mt_lt b
    obtain ⟨e1, e2⟩ := ex_bounds b
    generalize bN b = N at *
    generalize mt b = M at *
    generalize ex b = E at *
    by_cases h0 : M = 0
    · subst h0
      dsimp only
      rw [if_pos rfl]
      go_enter Tryd.func10, Tryd.ntmps10
      go_wp2_with fail
      refine (HA.out _).mono ?_
      rintro r X ⟨rfl, rfl⟩
      go_wp2
      exact bodyPost_ret (v := _) (by simp [results, Tryd.results10, go_sem]) rfl ⟨rfl, (Kept.refl _ _).alloc _⟩
    · dsimp only
      rw [if_neg h0]
      have h0' : ((M : Int) == 0) = false := by simp; omega
      obtain ⟨k, hk, hz⟩ := tz_spec h0 (by omega)
      have hd : M / 2 ^ tz M = 2 * k + 1 := by
        have hM : M / 2 ^ tz M = 2 ^ tz M * (2 * k + 1) / 2 ^ tz M := congrArg (· / 2 ^ tz M) hk
        rw [hM, Nat.mul_div_cancel_left _ (Nat.two_pow_pos _)]
      rw [hd]
      obtain ⟨Q, hQ⟩ : ∃ Q, Q = 2 * k + 1 := ⟨_, rfl⟩
      have hQ2 : Q % 2 = 1 := by omega
      rw [← hQ] at hk ⊢
      clear hd hQ
      generalize tz M = z at *
      have HK := show Hid _ from hk
      clear hk
      go_enter Tryd.func10, Tryd.ntmps10
      go_wp2_with fail
      refine (HA.out _).mono ?_
      rintro r X ⟨rfl, rfl⟩
      go_wp2_with fail
      go_loop [5, 6] (fun mv ev => ∃ j : Nat, j ≤ z ∧ mv = .int .i64 (2 ^ (z - j) * Q : Nat) ∧ ev = .int .i64 (E + j)) (fun _ ev => (E + z - intOf ev).toNat)
      case atStart => exact ⟨0, by omega, by rw [Nat.sub_zero, ← HK.out], by simp⟩
      case round =>
        obtain ⟨j, hj, rfl, rfl⟩ := hrel
        have hle : 2 ^ (z - j) * Q ≤ M := by
          rw [HK.out]; exact Nat.mul_le_mul_right _ (Nat.pow_le_pow_right (by omega) (by omega))
        by_cases hjz : j = z
        · subst hjz
          rw [Nat.sub_self, Nat.pow_zero, Nat.one_mul] at hle ⊢
          have hodd : (Q : Int) % 2 = 1 := by omega
          have hot : (Q : Int).tmod 2 = 1 := by rw [Int.tmod_eq_emod_of_nonneg (by omega)]; exact hodd
          clear hQ2
          go_wp2
          exact bodyPost_ret (v := _) (by simp [results, Tryd.results10, go_sem]) rfl ⟨rfl, (Kept.refl _ _).alloc _⟩
        · have hh := half_of z Q j (by omega)
          rw [hh] at hle ⊢
          obtain ⟨P, hP⟩ : ∃ P, P = 2 ^ (z - (j + 1)) * Q := ⟨_, rfl⟩
          rw [← hP] at hle ⊢
          have hev : ((2 * P : Nat) : Int) % 2 = 0 := by omega
          have hdv : ((2 * P : Nat) : Int) / 2 = (P : Int) := by omega
          have het : ((2 * P : Nat) : Int).tmod 2 = 0 := by rw [Int.tmod_eq_emod_of_nonneg (by omega)]; exact hev
          have hdt : ((2 * P : Nat) : Int).tdiv 2 = (P : Int) := by rw [Int.tdiv_eq_ediv_of_nonneg (by omega)]; exact hdv
          have HP := show Hid _ from hP
          have hP47 : P ≤ 16777216 := by omega
          clear hP hh
          generalize ((2 * P : Nat) : Int) = G at *
          go_wp2
          go_round
          case rel => exact ⟨j + 1, by omega, by rw [← HP.out], by go_num⟩
          case measure => simp [intOf]; omega

end Go.Proofs.YtagbjlkpmjbfnaaDoor
