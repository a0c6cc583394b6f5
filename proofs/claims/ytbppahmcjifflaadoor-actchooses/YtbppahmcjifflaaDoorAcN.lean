/-
  Numbers of layer 12: the usual bends.
-/
import Derived.Test.YtbppahmcjifflaaDoorSfm
import Derived.Test.YtbppahmcjifflaaDoorFwn
import Derived.Test.YtbppahmcjifflaaDoorMkL
namespace Go.Proofs.YtbppahmcjifflaaDoor
open Go.RowKit

/-- How much of a number from 0 on BendSoft lets through. -/
def opP (x : Int) : Int := 68719476736 / (1073741824 + exp2 (-8192 * x))
theorem opP_bound (x : Int) : 32 ≤ opP x ∧ opP x ≤ 64 := by
  have h0 := exp2_nonneg (-8192 * x)
  have h1 := exp2_le (-8192 * x)
  unfold opP
  generalize exp2 (-8192 * x) = e at *
  constructor
  · exact Int.le_ediv_of_mul_le (by omega) (by omega)
  · exact Int.lt_add_one_iff.1 (Int.ediv_lt_of_lt_mul (by omega) (by omega))
def opn (x : Int) : Int := if x < 0 then 64 - opP (-x) else opP x
theorem opn_bound (x : Int) : 0 ≤ opn x ∧ opn x ≤ 64 := by
  have h1 := opP_bound x
  have h2 := opP_bound (-x)
  unfold opn
  split <;> omega
theorem mul_opn {x : Int} (h : C8 x) : -8192 ≤ x * opn x ∧ x * opn x ≤ 8192 := by
  obtain ⟨o0, o1⟩ := opn_bound x
  obtain ⟨x0, x1⟩ := h
  rcases Int.lt_or_le x 0 with e | e
  · have := mul_bound (a := -x) (t := opn x) (A := 128) (T := 64) (by omega) (by omega) o0 o1
    rw [Int.neg_mul] at this
    omega
  · have := mul_bound (a := x) (t := opn x) (A := 128) (T := 64) (by omega) (by omega) o0 o1
    omega
theorem mul_max {x : Int} (h : C8 x) : 0 ≤ x * max x 0 ∧ x * max x 0 ≤ 16384 := by
  obtain ⟨x0, x1⟩ := h
  rcases Int.lt_or_le x 0 with e | e
  · rw [show max x 0 = 0 by omega, Int.mul_zero]
    omega
  · rw [show max x 0 = x by omega]
    have := mul_bound (a := x) (t := x) (A := 128) (T := 128) e (by omega) e (by omega)
    omega
/-- What the usual bend of a kind makes of a number. -/
def bnt (k x : Int) : Int := if k = 1 then max x 0 else if k = 2 then clamp (rdQ (x * opn x) 6) (-127) 127 else clamp (rdQ (x * max x 0) 7) (-127) 127
theorem bnt_cut (x : Int) : bnt 1 x = max x 0 := rfl
theorem bnt_soft (x : Int) : bnt 2 x = clamp (rdQ (x * opn x) 6) (-127) 127 := rfl
theorem bnt_square (x : Int) : bnt 3 x = clamp (rdQ (x * max x 0) 7) (-127) 127 := rfl
theorem bnt_c8 {k x : Int} (h : C8 x) : C8 (bnt k x) := by
  obtain ⟨x0, x1⟩ := h
  have h1 := clamp_bound (rdQ (x * opn x) 6)
  have h2 := clamp_bound (rdQ (x * max x 0) 7)
  unfold bnt C8
  split
  · omega
  · split <;> omega
/-- The number that has a place in a bend. -/
def at8 (i : Nat) : Int := if i ≤ 127 then (i : Int) else (i : Int) - 256
theorem at8_c8 {i : Nat} (h : i < 256) : C8 (at8 i) := by unfold at8 C8; split <;> omega
def tbE (k : Int) : Int := if 1 ≤ k ∧ k ≤ 3 then 0 else 121
def tbF (k : Int) (i : Nat) : Int := bnt k (at8 i)
def tbL (k : Int) : List Int := if tbE k = 0 then mkL 256 (tbF k) else []
theorem tbE_ok {k : Int} (h : 1 ≤ k ∧ k ≤ 3) : tbE k = 0 := if_pos h
theorem tbE_bad {k : Int} (h : ¬ (1 ≤ k ∧ k ≤ 3)) : tbE k = 121 := if_neg h
theorem tbL_ok {k : Int} (h : 1 ≤ k ∧ k ≤ 3) : tbL k = mkL 256 (tbF k) := if_pos (tbE_ok h)
theorem tbL_bad {k : Int} (h : ¬ (1 ≤ k ∧ k ≤ 3)) : tbL k = [] := if_neg (by rw [tbE_bad h]; decide)
theorem tbL_c8 (k : Int) : ∀ z ∈ tbL k, C8 z := by
  intro z hz
  by_cases h : 1 ≤ k ∧ k ≤ 3
  · rw [tbL_ok h] at hz
    obtain ⟨i, hi, rfl⟩ := mkL_mem hz
    exact bnt_c8 (at8_c8 hi)
  · rw [tbL_bad h] at hz
    cases hz
theorem tbL_len (k : Int) : (tbL k).length ≤ 256 := by
  by_cases h : 1 ≤ k ∧ k ≤ 3
  · rw [tbL_ok h, mkL_len]
    exact Nat.le_refl _
  · rw [tbL_bad h]
    simp
end Go.Proofs.YtbppahmcjifflaaDoor
