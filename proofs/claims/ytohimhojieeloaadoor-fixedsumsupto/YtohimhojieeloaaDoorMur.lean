/-
  Mul, the document's.
-/
import Derived.Test.YtohimhojieeloaaDoorMu
namespace Go.Proofs.YtohimhojieeloaaDoor
open Go.RowKit

theorem mulQ_in {a b p : Int} (e : a * b = p) (h : I64 p) : mulQ a b = p ∧ mulB a b = true := by
  unfold mulQ mulB
  rw [e]
  exact ⟨if_pos h, decide_eq_true h⟩
theorem mulQ_out {a b p : Int} (e : a * b = p) (h : ¬ I64 p) : mulQ a b = 0 ∧ mulB a b = false := by
  unfold mulQ mulB
  rw [e]
  exact ⟨if_neg h, decide_eq_false h⟩

set_option maxHeartbeats 800000 in
theorem refMul_plain (a b : Int) (w : World) (ha : I64 a) (hb : I64 b) (a0 : ¬ a = 0) (b0 : ¬ b = 0) (aL : ¬ a = -9223372036854775808) (bL : ¬ b = -9223372036854775808) :
    Calls Tryd.prog 13 #[.int .i64 a, .int .i64 b] w fun e w' => e = .returned (.tuple #[.int .i64 (mulQ a b), .bool (mulB a b)]) ∧ Drew w w' := by
  obtain ⟨ha0, ha1⟩ := ha
  obtain ⟨hb0, hb1⟩ := hb
  have t1 : (a == 0) = false := by simpa using a0
  have t2 : (b == 0) = false := by simpa using b0
  have t3 : (a == -9223372036854775808) = false := by simpa using aL
  have t4 : (b == -9223372036854775808) = false := by simpa using bL
  obtain ⟨P, hP⟩ : ∃ P, a * b = P := ⟨_, rfl⟩
  by_cases h : I64 P
  · obtain ⟨e1, e2⟩ := mulQ_in hP h
    rw [e1, e2]
    obtain ⟨h0, h1⟩ := h
    have q1 : P.tdiv a = b := by rw [← hP]; exact Int.mul_tdiv_cancel_left _ a0
    have q2 : P.tmod a = 0 := by rw [← hP]; exact Int.mul_tmod_right _ _
    clear e1 e2
    go_enter Tryd.func13, Tryd.ntmps13
    go_wp2
    go_ret2
    exact ⟨rfl, Drew.refl _⟩
  · obtain ⟨e1, e2⟩ := mulQ_out hP h
    rw [e1, e2]
    clear e1 e2
    have a1 : ¬ a = 1 := fun e => by subst e; rw [Int.one_mul] at hP; subst hP; exact h ⟨hb0, hb1⟩
    have a2 : ¬ a = -1 := fun e => by subst e; rw [Int.neg_mul, Int.one_mul] at hP; subst hP; exact h ⟨by omega, by omega⟩
    obtain ⟨C, hC⟩ : ∃ C, wrap64 P = C := ⟨_, rfl⟩
    have hCI : -9223372036854775808 ≤ C ∧ C ≤ 9223372036854775807 := by rw [← hC]; unfold wrap64; omega
    have hne : C ≠ P := fun e => h (by rw [← e]; exact hCI)
    have hbd : (C.tdiv a).natAbs ≤ 4611686018427387904 := by
      rw [Int.natAbs_tdiv]
      have h2 : 2 ≤ a.natAbs := by omega
      have h3 : C.natAbs ≤ 9223372036854775808 := by omega
      exact Nat.le_trans (Nat.div_le_div_left h2 (by omega)) (by omega)
    have hid := Int.mul_tdiv_add_tmod C a
    obtain ⟨Q, hQ⟩ : ∃ Q, C.tdiv a = Q := ⟨_, rfl⟩
    obtain ⟨R, hR⟩ : ∃ R, C.tmod a = R := ⟨_, rfl⟩
    rw [hQ, hR] at hid
    rw [hQ] at hbd
    have hq1 : -4611686018427387904 ≤ Q := by omega
    have hq2 : Q ≤ 4611686018427387904 := by omega
    by_cases hqb : Q = b
    · subst hqb
      have hr0 : (R != 0) = true := by
        rw [bne_iff_ne]
        intro e
        rw [e, hP] at hid
        exact hne (by omega)
      clear hid hne hbd h
      go_enter Tryd.func13, Tryd.ntmps13
      go_wp2
      go_ret2
      exact ⟨rfl, Drew.refl _⟩
    · have hr0 : (Q != b) = true := by rw [bne_iff_ne]; exact hqb
      clear hid hne hbd h
      go_enter Tryd.func13, Tryd.ntmps13
      go_wp2
      go_ret2
      exact ⟨rfl, Drew.refl _⟩

set_option maxHeartbeats 800000 in
theorem refMul_any (a b : Int) (w : World) (ha : I64 a) (hb : I64 b) :
    Calls Tryd.prog 13 #[.int .i64 a, .int .i64 b] w fun e w' => e = .returned (.tuple #[.int .i64 (mulQ a b), .bool (mulB a b)]) ∧ Drew w w' := by
  by_cases a0 : a = 0
  · subst a0
    obtain ⟨e1, e2⟩ := mulQ_in (Int.zero_mul b) ⟨by decide, by decide⟩
    rw [e1, e2]
    go_enter Tryd.func13, Tryd.ntmps13
    go_wp2
    go_ret2
    exact ⟨rfl, Drew.refl _⟩
  by_cases b0 : b = 0
  · subst b0
    obtain ⟨e1, e2⟩ := mulQ_in (Int.mul_zero a) ⟨by decide, by decide⟩
    rw [e1, e2]
    have t1 : (a == 0) = false := by simpa using a0
    clear e1 e2
    go_enter Tryd.func13, Tryd.ntmps13
    go_wp2
    go_ret2
    exact ⟨rfl, Drew.refl _⟩
  have t1 : (a == 0) = false := by simpa using a0
  have t2 : (b == 0) = false := by simpa using b0
  by_cases aL : a = -9223372036854775808
  · subst aL
    by_cases b1 : b = 1
    · subst b1
      obtain ⟨e1, e2⟩ := mulQ_in (Int.mul_one (-9223372036854775808)) ⟨by decide, by decide⟩
      rw [e1, e2]
      go_enter Tryd.func13, Tryd.ntmps13
      go_wp2
      go_ret2
      exact ⟨rfl, Drew.refl _⟩
    · obtain ⟨e1, e2⟩ := mulQ_out (a := -9223372036854775808) (b := b) rfl (by unfold I64; omega)
      rw [e1, e2]
      have t3 : (b == 1) = false := by simpa using b1
      clear e1 e2
      go_enter Tryd.func13, Tryd.ntmps13
      go_wp2
      go_ret2
      exact ⟨rfl, Drew.refl _⟩
  have t3 : (a == -9223372036854775808) = false := by simpa using aL
  by_cases bL : b = -9223372036854775808
  · subst bL
    by_cases a1 : a = 1
    · subst a1
      obtain ⟨e1, e2⟩ := mulQ_in (Int.one_mul (-9223372036854775808)) ⟨by decide, by decide⟩
      rw [e1, e2]
      go_enter Tryd.func13, Tryd.ntmps13
      go_wp2
      go_ret2
      exact ⟨rfl, Drew.refl _⟩
    · obtain ⟨e1, e2⟩ := mulQ_out (a := a) (b := -9223372036854775808) rfl (by unfold I64; omega)
      rw [e1, e2]
      have t4 : (a == 1) = false := by simpa using a1
      clear e1 e2
      go_enter Tryd.func13, Tryd.ntmps13
      go_wp2
      go_ret2
      exact ⟨rfl, Drew.refl _⟩
  exact refMul_plain a b w ha hb a0 b0 aL bL

end Go.Proofs.YtohimhojieeloaaDoor
