/-
  The logarithm as the document reckons it: its numbers.
-/
import Derived.Test.YtohimhojieeloabDoorNum
import Derived.Lib.BitFns
namespace Go.Proofs.YtohimhojieeloabDoor
open Go.RowKit

theorem log2_le {x : Nat} (h : 1 ≤ x) : 2 ^ x.log2 ≤ x := Nat.log2_self_le (by omega)
theorem log2_lt (x : Nat) : x < 2 ^ (x.log2 + 1) := Nat.lt_log2_self
theorem log2_of {x n : Nat} (h : 2 ^ n ≤ x) (k : x < 2 ^ (n + 1)) : x.log2 = n := by
  have hx : x ≠ 0 := by have : 0 < 2 ^ n := Nat.pos_of_ne_zero (by simp); omega
  rw [Nat.log2_eq_iff hx]
  exact ⟨h, k⟩
theorem log2_63 {x : Nat} (h : x ≤ 9223372036854775807) (h1 : 1 ≤ x) : x.log2 ≤ 62 := by
  rcases Nat.lt_or_ge 62 x.log2 with c | c
  · have h2 : 2 ^ 63 ≤ 2 ^ x.log2 := Nat.pow_le_pow_right (by omega) (by omega)
    have := log2_le h1
    omega
  · exact c
theorem bitLen_log2 {x : Nat} (h1 : 1 ≤ x) (h : x < 18446744073709551616) : Lib.bitLen x = x.log2 + 1 := by
  have a := log2_le h1
  have b := log2_lt x
  rw [Lib.bitLen_shift x.log2 x a (by omega)]
  have hq : x / 2 ^ x.log2 = 1 := by
    apply Nat.div_eq_of_lt_le
    · omega
    · rw [Nat.pow_succ] at b; omega
  rw [hq]
  rfl

/-- The leading part. -/
def lead (x n : Nat) : Nat := if n ≤ 30 then x * 2 ^ (30 - n) else x / 2 ^ (n - 30)
theorem lead_bound {x : Nat} (h1 : 1 ≤ x) : 1073741824 ≤ lead x x.log2 ∧ lead x x.log2 < 2147483648 := by
  have a := log2_le h1
  have b := log2_lt x
  unfold lead
  by_cases h : x.log2 ≤ 30
  · rw [if_pos h]
    constructor
    · have := Nat.mul_le_mul_right (2 ^ (30 - x.log2)) a
      rw [← Nat.pow_add, show x.log2 + (30 - x.log2) = 30 by omega] at this
      exact this
    · have := Nat.mul_lt_mul_of_pos_right b (show 0 < 2 ^ (30 - x.log2) from Nat.pos_of_ne_zero (by simp))
      rw [← Nat.pow_add, show x.log2 + 1 + (30 - x.log2) = 31 by omega] at this
      exact this
  · rw [if_neg h]
    constructor
    · rw [Nat.le_div_iff_mul_le (Nat.pos_of_ne_zero (by simp)), show (1073741824 : Nat) = 2 ^ 30 from rfl, ← Nat.pow_add, show 30 + (x.log2 - 30) = x.log2 by omega]
      exact a
    · rw [Nat.div_lt_iff_lt_mul (Nat.pos_of_ne_zero (by simp)), show (2147483648 : Nat) = 2 ^ 31 from rfl, ← Nat.pow_add, show 31 + (x.log2 - 30) = x.log2 + 1 by omega]
      exact b

/-- One digit more. -/
def lstep (p : Nat × Nat) : Nat × Nat :=
  if 2147483648 ≤ p.1 * p.1 / 1073741824 then (p.1 * p.1 / 1073741824 / 2, 2 * p.2 + 1) else (p.1 * p.1 / 1073741824, 2 * p.2)
def lrun (p : Nat × Nat) : Nat → Nat × Nat
  | 0 => p
  | k + 1 => lstep (lrun p k)

theorem sq_bound {m : Nat} (h0 : 1073741824 ≤ m) (h1 : m < 2147483648) : 1073741824 * 1073741824 ≤ m * m ∧ m * m ≤ 2147483647 * 2147483647 :=
  ⟨Nat.mul_le_mul h0 h0, Nat.mul_le_mul (by omega) (by omega)⟩
theorem lstep_bound {p : Nat × Nat} (h : 1073741824 ≤ p.1 ∧ p.1 < 2147483648) : 1073741824 ≤ (lstep p).1 ∧ (lstep p).1 < 2147483648 := by
  obtain ⟨a, b⟩ := sq_bound h.1 h.2
  unfold lstep
  split
  · show 1073741824 ≤ p.1 * p.1 / 1073741824 / 2 ∧ p.1 * p.1 / 1073741824 / 2 < 2147483648
    omega
  · show 1073741824 ≤ p.1 * p.1 / 1073741824 ∧ p.1 * p.1 / 1073741824 < 2147483648
    omega
theorem lrun_bound {p : Nat × Nat} (h : 1073741824 ≤ p.1 ∧ p.1 < 2147483648) : ∀ k, 1073741824 ≤ (lrun p k).1 ∧ (lrun p k).1 < 2147483648
  | 0 => h
  | k + 1 => lstep_bound (lrun_bound h k)
theorem lrun_from (m a : Nat) : ∀ k, lrun (m, a) k = ((lrun (m, 0) k).1, a * 2 ^ k + (lrun (m, 0) k).2)
  | 0 => by simp [lrun]
  | k + 1 => by
    show lstep (lrun (m, a) k) = ((lstep (lrun (m, 0) k)).1, a * 2 ^ (k + 1) + (lstep (lrun (m, 0) k)).2)
    rw [lrun_from m a k, Nat.pow_succ]
    unfold lstep
    simp only
    split
    · simp only [Prod.mk.injEq, true_and]
      rw [Nat.mul_add, ← Nat.mul_assoc 2, Nat.mul_comm 2 a, Nat.mul_assoc a 2, Nat.mul_comm 2 (2 ^ k)]; omega
    · simp only [Prod.mk.injEq, true_and]
      rw [Nat.mul_add, ← Nat.mul_assoc 2, Nat.mul_comm 2 a, Nat.mul_assoc a 2, Nat.mul_comm 2 (2 ^ k)]
theorem lrun_lt (m : Nat) : ∀ k, (lrun (m, 0) k).2 < 2 ^ k
  | 0 => by simp [lrun]
  | k + 1 => by
    have h := lrun_lt m k
    show (lstep (lrun (m, 0) k)).2 < 2 ^ (k + 1)
    rw [Nat.pow_succ]
    unfold lstep
    split
    · show 2 * (lrun (m, 0) k).2 + 1 < _; omega
    · show 2 * (lrun (m, 0) k).2 < _; omega

/-- Log2 of x. -/
def lg (x : Nat) : Nat := 65536 * x.log2 + (lrun (lead x x.log2, 0) 16).2
theorem lg_lt {x : Nat} (h1 : 1 ≤ x) (h : x ≤ 9223372036854775807) : lg x < 4128768 := by
  have := log2_63 h h1
  have := lrun_lt (lead x x.log2) 16
  unfold lg
  omega
end Go.Proofs.YtohimhojieeloabDoor
