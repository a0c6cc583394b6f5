/-
  A number given, in a box, beside another box that is stored to.
-/
import Derived.Test.YtdmjfmipalifpaaGreatDoorGvc
namespace Go.Proofs.YtdmjfmipalifpaaGreatDoor
open Go.RowKit

/-- A number: the document's, and the program's in a box. -/
structure One (w : World) (bx : Nat) (xv mv : Value) (M : Nat) (W : World) : Prop where
  fr : Fresh w W
  hx : W.heap[bx]? = some (.cells #[xv] 26 (0, 0))
  rm : Rn W mv M
  nx : Nm W xv (fitN M)
  pw : Pw W
theorem One.next {w : World} {bx : Nat} {xv mv : Value} {M : Nat} {W W' : World} (h : One w bx xv mv M W) (hF : Fresh W W') : One w bx xv mv M W' :=
  ⟨h.fr.trans hF (fun _ _ e => e), hF.at h.hx (fun e => e), h.rm.fresh hF, h.nx.fresh hF, h.pw.fresh hF⟩
theorem One.cx {w : World} {bx : Nat} {xv mv : Value} {M : Nat} {W : World} (h : One w bx xv mv M W) : W.cell? ⟨bx, 0, none⟩ = some xv := by rw [Lib.cell_of_heap h.hx]; rfl
theorem One.made {w w1 : World} {xv mv : Value} {M : Nat} (hT : Pw w) (h1 : Fresh w w1) (r1 : Rn w1 mv M) (n1 : Nm w1 xv (fitN M)) :
    One w w1.heap.size xv mv M (w1.alloc (.cells #[xv] 26)) := by
  have a1 : Fresh w1 (w1.alloc (.cells #[xv] 26)) := (Kept.refl _ _).alloc _
  have f0 : Fresh w (w1.alloc (.cells #[xv] 26)) := Kept.trans h1 a1 (fun _ _ e => e)
  exact ⟨f0, heap_alloc_new w1 _, r1.fresh a1, n1.fresh a1, hT.fresh f0⟩
theorem One.set {w : World} {bx : Nat} {xv mv : Value} {M : Nat} {W : World} (h : One w bx xv mv M W) (hT : Pw w) {bs : Nat} {a : Option Addr} {n c : Nat} (hs : W.heap[bs]? = some (.cells #[.slice a n c] 26 (0, 0))) (h0 : w.heap.size ≤ bs) (h1 : bx ≠ bs) (x : Value) :
    One w bx xv mv M (W.setCell ⟨bs, 0, none⟩ x) ∧ (W.setCell ⟨bs, 0, none⟩ x).heap[bs]? = some (.cells #[x] 26 (0, 0)) := by
  have hF : Fresh w (W.setCell ⟨bs, 0, none⟩ x) := h.fr.setCell (p := ⟨bs, 0, none⟩) (fun e => by simp at e; omega) _
  exact ⟨⟨hF, (kept_set W bs 0 x).at h.hx (fun e => h1 e), rn_set h.rm hs (fun _ _ => Value.noConfusion) _, nm_set h.nx hs (by decide) _ _, hT.fresh hF⟩, heap_setCell_same W bs 0 _ _ x hs⟩
end Go.Proofs.YtdmjfmipalifpaaGreatDoor
