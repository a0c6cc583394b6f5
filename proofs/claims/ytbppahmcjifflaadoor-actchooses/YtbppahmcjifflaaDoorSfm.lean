/-
  Exp2 rises, and lies between 0 and 2^30.
-/
import Derived.Test.YtbppahmcjifflaaDoorSfe
namespace Go.Proofs.YtbppahmcjifflaaDoor
open Go.RowKit

theorem half_pow (c : Int) (j : Nat) : c / 2 ^ j / 2 = c / 2 ^ (j + 1) := by
  rw [Int.ediv_ediv_of_nonneg (by exact Int.le_of_lt (Int.pow_pos (by omega))), Int.pow_succ]
theorem half_pow' (c : Int) (j : Nat) : c / 2 / 2 ^ j = c / 2 ^ (j + 1) := by
  rw [Int.ediv_ediv_of_nonneg (by omega), Int.pow_succ, Int.mul_comm]
theorem pow_pos2 (j : Nat) : 0 < (2 : Int) ^ j := Int.pow_pos (by omega)

/-- Exp2 without its test for far numbers. -/
theorem exp2_eq (x : Int) (hx : x ≤ 0) : exp2 x = polyC (x % 65536) / 2 ^ (-(x / 65536)).toNat := by
  unfold exp2
  rw [show min x 0 = x by omega]
  by_cases h : 31 ≤ -(x / 65536)
  · rw [if_pos h]
    obtain ⟨c0, c1⟩ := polyC_bound (t := x % 65536) (by omega) (by omega)
    symm
    apply Int.ediv_eq_zero_of_lt (by omega)
    have : (2 : Int) ^ 31 ≤ 2 ^ (-(x / 65536)).toNat := by
      have h2 : 2 ^ 31 ≤ 2 ^ (-(x / 65536)).toNat := Nat.pow_le_pow_right (by omega) (by omega)
      have := Int.ofNat_le.2 h2
      simpa using this
    omega
  · rw [if_neg h]
theorem polyC_mono {s t : Int} (s0 : 0 ≤ s) (hst : s ≤ t) (t1 : t ≤ 65535) : polyC s ≤ polyC t := by
  have hA : polyA s ≤ polyA t := by unfold polyA; omega
  have hA0 := (polyA_bound s0 (by omega : s ≤ 65535)).1
  have hAt0 := (polyA_bound (by omega : 0 ≤ t) t1).1
  have hB : polyB s ≤ polyB t := by
    have := Int.mul_le_mul hA hst s0 hAt0
    unfold polyB
    omega
  have hBt0 := (polyB_bound (by omega : 0 ≤ t) t1).1
  have := Int.mul_le_mul hB hst s0 hBt0
  unfold polyC
  omega
theorem exp2_mono0 {x y : Int} (h : x ≤ y) (hy : y ≤ 0) : exp2 x ≤ exp2 y := by
  rw [exp2_eq x (by omega), exp2_eq y hy]
  obtain ⟨c0, c1⟩ := polyC_bound (t := x % 65536) (by omega) (by omega)
  obtain ⟨d0, d1⟩ := polyC_bound (t := y % 65536) (by omega) (by omega)
  by_cases e : x / 65536 = y / 65536
  · rw [e]
    exact Int.ediv_le_ediv (pow_pos2 _) (polyC_mono (by omega) (by omega) (by omega))
  · obtain ⟨k, hk⟩ : ∃ k : Nat, (-(x / 65536)).toNat = (-(y / 65536)).toNat + 1 + k := ⟨(-(x / 65536)).toNat - (-(y / 65536)).toNat - 1, by omega⟩
    rw [hk, Int.pow_add, ← Int.ediv_ediv_of_nonneg (Int.le_of_lt (pow_pos2 _)), ← half_pow']
    generalize polyC (x % 65536) = c at *
    generalize polyC (y % 65536) = d at *
    have h1 : c / 2 / 2 ^ (-(y / 65536)).toNat ≤ d / 2 ^ (-(y / 65536)).toNat := Int.ediv_le_ediv (pow_pos2 _) (by omega)
    have h2 : 0 ≤ c / 2 / 2 ^ (-(y / 65536)).toNat := Int.ediv_nonneg (by omega) (Int.le_of_lt (pow_pos2 _))
    exact Int.le_trans (Int.ediv_le_self _ h2) h1
theorem exp2_zero : exp2 0 = 1073741824 := by decide
theorem exp2_top {x : Int} (h : 0 ≤ x) : exp2 x = 1073741824 := by
  rw [← exp2_zero]
  unfold exp2
  rw [show min x 0 = 0 by omega, show min (0 : Int) 0 = 0 by omega]
theorem exp2_le (x : Int) : exp2 x ≤ 1073741824 := by
  rcases Int.lt_or_le 0 x with h | h
  · rw [exp2_top (by omega)]; omega
  · rw [← exp2_zero]; exact exp2_mono0 h (by omega)
theorem exp2_nonneg (x : Int) : 0 ≤ exp2 x := by
  rcases Int.lt_or_le 0 x with h | h
  · rw [exp2_top (by omega)]; omega
  · rw [exp2_eq x h]
    obtain ⟨c0, c1⟩ := polyC_bound (t := x % 65536) (by omega) (by omega)
    exact Int.ediv_nonneg (by omega) (Int.le_of_lt (pow_pos2 _))
theorem exp2_mono {x y : Int} (h : x ≤ y) : exp2 x ≤ exp2 y := by
  rcases Int.lt_or_le 0 y with k | k
  · rw [exp2_top (x := y) (by omega)]; exact exp2_le x
  · exact exp2_mono0 h k
theorem exp2_half {x : Int} (h : x ≤ 0) : exp2 (x - 65536) = exp2 x / 2 := by
  rw [exp2_eq x h, exp2_eq (x - 65536) (by omega), half_pow, show (x - 65536) % 65536 = x % 65536 by omega,
    show (-((x - 65536) / 65536)).toNat = (-(x / 65536)).toNat + 1 by omega]
theorem exp2_whole (n : Nat) : exp2 (-65536 * (n : Int)) = 1073741824 / 2 ^ n := by
  rw [exp2_eq _ (by omega), show -65536 * (n : Int) % 65536 = 0 by omega, show (-(-65536 * (n : Int) / 65536)).toNat = n by omega]
  rfl

end Go.Proofs.YtbppahmcjifflaaDoor
