/-
  Powers: their numbers.
-/
import Derived.Test.YtohimhojieeloabDoorMu
namespace Go.Proofs.YtohimhojieeloabDoor
open Go.RowKit

theorem sq_pow (X : Int) : ∀ j : Nat, (X * X) ^ j = X ^ (2 * j)
  | 0 => by rw [Nat.mul_zero, Int.pow_zero, Int.pow_zero]
  | j + 1 => by
    rw [Int.pow_succ, sq_pow X j, show 2 * (j + 1) = 2 * j + 1 + 1 by omega, Int.pow_succ, Int.pow_succ, Int.mul_assoc]
theorem pow_odd (P X : Int) (j : Nat) : P * X ^ (2 * j + 1) = P * X * (X * X) ^ j := by
  rw [sq_pow, Int.pow_succ, Int.mul_comm (X ^ (2 * j)) X, Int.mul_assoc]
theorem pow_even (P X : Int) (j : Nat) : P * X ^ (2 * j) = P * (X * X) ^ j := by rw [sq_pow]
theorem pow_ge_one {Y : Int} (h : 1 ≤ Y) (j : Nat) : 1 ≤ Y ^ j := by
  have : 0 < Y ^ j := Int.pow_pos (by omega)
  omega
theorem sq_pos {X : Int} (h : X ≠ 0) : 1 ≤ X * X := by
  have h1 : 1 * 1 ≤ X.natAbs * X.natAbs := Nat.mul_le_mul (by omega) (by omega)
  have h2 : X * X = ((X.natAbs * X.natAbs : Nat) : Int) := Int.natAbs_mul_self.symm
  omega

/-- What is too great stays so, times what is not below 1. -/
theorem out_mul {p S : Int} (hp : ¬ I64 p) (hS : 1 ≤ S) : ¬ I64 (p * S) := by
  unfold I64 at *
  rcases Int.lt_or_le p 0 with c | c
  · have := Int.mul_le_mul_of_nonpos_left (a := p) (b := S) (c := 1) (by omega) hS
    omega
  · have := Int.mul_le_mul_of_nonneg_left (a := 1) (b := S) (c := p) hS c
    omega
theorem out_odd {P X : Int} (j : Nat) (h : ¬ I64 (P * X)) : ¬ I64 (P * X ^ (2 * j + 1)) := by
  rw [pow_odd]
  have hX : X ≠ 0 := fun e => h (by rw [e, Int.mul_zero]; exact ⟨by decide, by decide⟩)
  exact out_mul h (pow_ge_one (sq_pos hX) j)
theorem sq_big {X : Int} (h : ¬ I64 (X * X)) : 9223372037000250000 ≤ X * X := by
  rcases Nat.lt_or_ge X.natAbs 3037000500 with c | c
  · have h1 : X.natAbs * X.natAbs ≤ 3037000499 * 3037000499 := Nat.mul_le_mul (by omega) (by omega)
    have h2 : X * X = ((X.natAbs * X.natAbs : Nat) : Int) := Int.natAbs_mul_self.symm
    exact absurd ⟨by omega, by omega⟩ h
  · have h1 : 3037000500 * 3037000500 ≤ X.natAbs * X.natAbs := Nat.mul_le_mul c c
    have h2 : X * X = ((X.natAbs * X.natAbs : Nat) : Int) := Int.natAbs_mul_self.symm
    omega
theorem pow_big {Y : Int} (h : 9223372037000250000 ≤ Y) (j : Nat) : 9223372037000250000 ≤ Y ^ (j + 1) := by
  rw [Int.pow_succ]
  have h1 := pow_ge_one (Y := Y) (by omega) j
  have := Int.mul_le_mul_of_nonneg_right (a := 1) (b := Y ^ j) (c := Y) h1 (by omega)
  omega
theorem out_sq {P X : Int} (j : Nat) (h : ¬ I64 (X * X)) (hP : P ≠ 0) : ¬ I64 (P * (X * X) ^ (j + 1)) := by
  have hz := pow_big (sq_big h) j
  generalize (X * X) ^ (j + 1) = Z at *
  unfold I64
  rcases Int.lt_or_gt_of_ne hP with c | c
  · have := Int.mul_le_mul_of_nonneg_right (a := P) (b := -1) (c := Z) (by omega) (by omega)
    omega
  · have := Int.mul_le_mul_of_nonneg_right (a := 1) (b := P) (c := Z) (by omega) (by omega)
    omega
theorem out_pow {x : Int} {m k : Nat} (h : ¬ I64 (x ^ m)) (hx : 2 ≤ x.natAbs) (hm : m ≤ k) : ¬ I64 (x ^ k) := by
  rcases Nat.eq_or_lt_of_le hm with rfl | c
  · exact h
  · have h1 : 9223372036854775808 ≤ x.natAbs ^ m := by
      rw [← Int.natAbs_pow]
      unfold I64 at h
      omega
    have h2 : x.natAbs ^ (m + 1) ≤ x.natAbs ^ k := Nat.pow_le_pow_right (by omega) c
    rw [Nat.pow_succ] at h2
    have h3 := Nat.mul_le_mul h1 hx
    have h4 : 18446744073709551616 ≤ (x ^ k).natAbs := by rw [Int.natAbs_pow]; omega
    unfold I64
    omega

def powQ (T : Int) : Int := if -9223372036854775808 ≤ T ∧ T ≤ 9223372036854775807 then T else 0
def powB (T : Int) : Bool := decide (-9223372036854775808 ≤ T ∧ T ≤ 9223372036854775807)
theorem powQ_in {T : Int} (h : I64 T) : powQ T = T ∧ powB T = true := ⟨if_pos h, decide_eq_true h⟩
theorem powQ_out {T : Int} (h : ¬ I64 T) : powQ T = 0 ∧ powB T = false := ⟨if_neg h, decide_eq_false h⟩
end Go.Proofs.YtohimhojieeloabDoor
