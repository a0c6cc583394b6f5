/-
  step: what End and Feed leave in memory (their walks: open).
-/
import Derived.Test.YtomeoklhjdgaoaaDoorSuk
namespace Go.Proofs.YtomeoklhjdgaoaaDoor
open Go.RowKit Go.Lib Go.Maps

abbrev sixW (W : World) (z : Nat) (v0 v1 v2 v3 v4 v5 : Value) : World := ((((((W.setCell ⟨z, 0, none⟩ v0).setCell ⟨z, 1, none⟩ v1).setCell ⟨z, 2, none⟩ v2).setCell ⟨z, 3, none⟩ v3).setCell ⟨z, 4, none⟩ v4).setCell ⟨z, 5, none⟩ v5)
theorem Mvd.undrew {F F' : Nat → Prop} {a b : World} (h : Mvd F a.drew F' b) : Mvd F a F' b := ⟨h.1.undrew, h.2.1, h.2.2⟩
/-- Behind the document's call, with its answer in the box: what a call of the program leaves. -/
theorem step_mid {F : Nat → Prop} {w W4 : World} {b0 b1 b2 b3 b4 b5 v0 v1 v2 v3 v4 v5 : Value} (hFl : ∀ q, F q → q < w.heap.size) (hb : W4.heap[w.heap.size]? = some (.cells #[b0, b1, b2, b3, b4, b5] 30 (0, 0))) (hr : W4.heap[w.heap.size + 1 + 1]? = some rs0) (hf : Fresh w W4) :
    Fresh w (sixW W4 w.heap.size v0 v1 v2 v3 v4 v5) ∧ ∀ W6 F', (Mvd F (sixW W4 w.heap.size v0 v1 v2 v3 v4 v5) F' W6 ∨ Mvd F (sixW W4 w.heap.size v0 v1 v2 v3 v4 v5).drew F' W6) →
      W6.heap[w.heap.size]? = some (.cells #[v0, v1, v2, v3, v4, v5] 30 (0, 0)) ∧ W6.heap[w.heap.size + 1 + 1]? = some rs0 ∧ Mvd F w F' W6 ∧ ¬ F' (w.heap.size + 1 + 1) := by
  have hk := six_kept (W := W4) (z := w.heap.size) v0 v1 v2 v3 v4 v5
  have hf5 : Fresh w (sixW W4 w.heap.size v0 v1 v2 v3 v4 v5) := hf.trans hk (fun i hi e => by have e' : i = w.heap.size := e; omega)
  have hb5 : (sixW W4 w.heap.size v0 v1 v2 v3 v4 v5).heap[w.heap.size]? = some (.cells #[v0, v1, v2, v3, v4, v5] 30 (0, 0)) := six_set hb _ _ _ _ _ _
  have hr5 : (sixW W4 w.heap.size v0 v1 v2 v3 v4 v5).heap[w.heap.size + 1 + 1]? = some rs0 := hk.at hr (by omega)
  refine ⟨hf5, fun W6 F' h => ?_⟩
  have hM : Mvd F (sixW W4 w.heap.size v0 v1 v2 v3 v4 v5) F' W6 := h.elim id Mvd.undrew
  have hlt := lt_of_heap hr5
  refine ⟨hM.1.at hb5 (fun e => by have := hFl _ e; omega), hM.1.at hr5 (fun e => by have := hFl _ e; omega), ⟨hf5.mono (fun _ _ e => e.elim) |>.trans hM.1 (fun i hi e => e), hM.2.1, fun q hq => (hM.2.2 q hq).elim .inl (fun e => .inr (Nat.le_trans hf5.size e))⟩, fun e => (hM.2.2 _ e).elim (fun e => by have := hFl _ e; omega) (fun e => by omega)⟩
end Go.Proofs.YtomeoklhjdgaoaaDoor
