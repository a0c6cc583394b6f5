/-
  Rows that are being filled; the cells of a row, whatever is made besides.
-/
import Derived.Test.YtbppahmcjifflaaDoorGvs
import Derived.Test.YtbppahmcjifflaaDoorMkL
namespace Go.Proofs.YtbppahmcjifflaaDoor
open Go.RowKit Go.Lib Go.Maps

/-- A row that is being filled. -/
abbrev Fil (k : IntKind) (e : TypeId) (w : World) (n : Nat) (f : Nat → Int) (j : Nat) (wr : World) : Prop :=
  wr.ownsRow w.heap.size e 1 (.slice (some ⟨w.heap.size, 0, none⟩) n n) n ((mkL j f ++ List.replicate (n - j) 0).map (Value.int k)) ∧ Fresh w wr
theorem Fil.start {k : IntKind} {e : TypeId} (w : World) (n : Nat) (f : Nat → Int) (hn : n ≤ 140737488351232) : Fil k e w n f 0 (w.alloc (.cells ((List.replicate n (0 : Int)).map (Value.int k)).toArray e)) :=
  ⟨own_made k e w w.heap.size (Nat.le_refl _) n n (Nat.le_refl _) hn, (Kept.refl _ w).alloc _⟩
theorem Fil.next {k : IntKind} {e : TypeId} {w wr : World} {n : Nat} {f : Nat → Int} {j : Nat} (h : Fil k e w n f j wr) (hj : j < n) : Fil k e w n f (j + 1) (wr.setCell ⟨w.heap.size, j, none⟩ (.int k (f j))) := by
  refine ⟨?_, h.2.setCell (fun e => absurd e (Nat.lt_irrefl _)) _⟩
  have := own_setB (i := j) (x := Value.int k (f j)) h.1
  rw [← List.map_set, show n - j = (n - (j + 1)) + 1 by omega, set_at (mkL_len j f)] at this
  rw [mkL_succ]
  exact this
theorem Fil.drew {k : IntKind} {e : TypeId} {w wr : World} {n : Nat} {f : Nat → Int} {j : Nat} (h : Fil k e w n f j wr) (d : Nat) : Fil k e w n f j (wr.drewN d) := ⟨h.1, h.2.drewN d⟩
theorem Fil.done {k : IntKind} {e : TypeId} {w wr : World} {n : Nat} {f : Nat → Int} (h : Fil k e w n f n wr) (E : Int) : Gives k e (mkL n f) E w (.returned (.tuple #[.slice (some ⟨w.heap.size, 0, none⟩) n n, zV E])) wr := by
  refine ⟨_, rfl, ?_, h.2⟩
  have := h.1
  rw [Nat.sub_self, List.replicate_zero, List.append_nil] at this
  rw [mkL_len]
  exact this
/-- The cells of a row, whatever is made besides. -/
theorem Rk.stay {k : IntKind} {p : Nat → Prop} {w : World} {ao : Option Addr} {n cap : Nat} {zs : List Int} (h : Rk k p w (.slice ao n cap) zs) : 0 < n → ∃ b off, ao = some ⟨b, off, none⟩ ∧ ∀ W, Fresh w W → ∀ i, i < n → W.cell? ⟨b, off + i, none⟩ = some (.int k (zs.getD i 0)) := fun hp => by
  obtain ⟨b, off, e, _, hb, hcell⟩ := h.cells.2.2.2 hp
  exact ⟨b, off, e, fun W hF i hi => (hF.cell (p := ⟨b, off + i, none⟩) hb (fun e => e)).trans (hcell i hi)⟩
end Go.Proofs.YtbppahmcjifflaaDoor
