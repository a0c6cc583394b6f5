/-
  Two numbers given, in boxes, and a third box that is stored to.
-/
import Derived.Test.YtdmjfmipalifpaaGreatDoorGvc
namespace Go.Proofs.YtdmjfmipalifpaaGreatDoor
open Go.RowKit

theorem Two.set {w : World} {bx by' : Nat} {xv yv mv nv : Value} {M N : Nat} {W : World} (h : Two w bx by' xv yv mv nv M N W) (hT : Pw w) {bs : Nat} {a : Option Addr} {n c : Nat} (hs : W.heap[bs]? = some (.cells #[.slice a n c] 26 (0, 0))) (h0 : w.heap.size ≤ bs) (h1 : bx ≠ bs) (h2 : by' ≠ bs) (x : Value) :
    Two w bx by' xv yv mv nv M N (W.setCell ⟨bs, 0, none⟩ x) ∧ (W.setCell ⟨bs, 0, none⟩ x).heap[bs]? = some (.cells #[x] 26 (0, 0)) := by
  have hF : Fresh w (W.setCell ⟨bs, 0, none⟩ x) := h.fr.setCell (p := ⟨bs, 0, none⟩) (fun e => by simp at e; omega) _
  refine ⟨⟨hF, (kept_set W bs 0 x).at h.hx (fun e => h1 e), (kept_set W bs 0 x).at h.hy (fun e => h2 e), rn_set h.rm hs (fun _ _ => Value.noConfusion) _, rn_set h.rn hs (fun _ _ => Value.noConfusion) _, nm_set h.nx hs (by decide) _ _, nm_set h.ny hs (by decide) _ _, hT.fresh hF⟩, ?_⟩
  exact heap_setCell_same W bs 0 _ _ x hs
end Go.Proofs.YtdmjfmipalifpaaGreatDoor
