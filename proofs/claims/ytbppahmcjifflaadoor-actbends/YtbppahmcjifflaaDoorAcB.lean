/-
  Numbers of ActBends: the usual bends of 256 numbers, one by one.
-/
import Derived.Test.YtbppahmcjifflaaDoorAcG
namespace Go.Proofs.YtbppahmcjifflaaDoor
open Go.RowKit

theorem at8_pl {x : Int} (h : C8 x) : at8 (plN x) = x := by
  obtain ⟨x0, x1⟩ := h
  unfold at8 plN
  split <;> omega
theorem tbF_pl {k x : Int} (h : C8 x) : tbF k (plN x) = bnt k x := by unfold tbF; rw [at8_pl h]
/-- What is claimed of the usual bends of a number. -/
def okBend (x : Int) : Bool :=
  decide (0 ≤ bnt 1 x) && decide (0 ≤ bnt 3 x) && (!decide (x < 127) || (decide (bnt 1 x ≤ bnt 1 (x + 1)) && decide (bnt 3 x ≤ bnt 3 (x + 1)))) && (!decide (x ≤ 0) || (decide (bnt 1 x = 0) && decide (bnt 3 x = 0))) && (!decide (-128 < x) || decide (IntKind.i8.wrap (bnt 2 x - bnt 2 (-x)) = x)) && (!decide (0 < x) || decide (bnt 1 x = x))
set_option maxRecDepth 100000 in
theorem okBend_all : ∀ i : Fin 256, okBend ((i.val : Int) - 128) = true := by decide +kernel
theorem bend_facts {x : Int} (h : C8 x) : 0 ≤ bnt 1 x ∧ 0 ≤ bnt 3 x ∧ (x < 127 → bnt 1 x ≤ bnt 1 (x + 1) ∧ bnt 3 x ≤ bnt 3 (x + 1)) ∧ (x ≤ 0 → bnt 1 x = 0 ∧ bnt 3 x = 0) ∧ (-128 < x → IntKind.i8.wrap (bnt 2 x - bnt 2 (-x)) = x) ∧ (0 < x → bnt 1 x = x) := by
  obtain ⟨x0, x1⟩ := h
  have h1 := okBend_all ⟨(x + 128).toNat, by omega⟩
  simp only [show (((x + 128).toNat : Nat) : Int) - 128 = x by omega] at h1
  unfold okBend at h1
  simp only [Bool.and_eq_true, Bool.or_eq_true, Bool.not_eq_true', decide_eq_true_eq, decide_eq_false_iff_not] at h1
  obtain ⟨⟨⟨⟨⟨a, b⟩, c⟩, d⟩, e⟩, f⟩ := h1
  exact ⟨a, b, fun hx => c.resolve_left (fun n => n hx), fun hx => d.resolve_left (fun n => n hx), fun hx => e.resolve_left (fun n => n hx), fun hx => f.resolve_left (fun n => n hx)⟩
theorem bnt_zero (k : Int) (hk : 1 ≤ k ∧ k ≤ 3) : bnt k 0 = 0 := by
  have hc : k = 1 ∨ k = 2 ∨ k = 3 := by omega
  rcases hc with rfl | rfl | rfl <;> decide +kernel
end Go.Proofs.YtbppahmcjifflaaDoor
