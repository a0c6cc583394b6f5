/-
  Rows that grow, one number at a time.
-/
import Derived.Test.YtbppahmcjifflaaDoorFil
namespace Go.Proofs.YtbppahmcjifflaaDoor
open Go.RowKit Go.Lib Go.Maps

/-- A row that grows. -/
def Grw (k : IntKind) (e : TypeId) (w : World) (f : Nat → Int) (j g c : Nat) (wr : World) : Prop :=
  wr.ownsRow w.heap.size e 1 (.slice (some ⟨g, 0, none⟩) j c) j ((mkL j f).map (Value.int k)) ∧ Fresh w wr
theorem Grw.start {k : IntKind} {e : TypeId} {w W : World} (f : Nat → Int) (hF : Fresh w W) : Grw k e w f 0 W.heap.size 0 (W.alloc (.cells #[] e)) :=
  ⟨own_empty W _ hF.size _, hF.alloc _⟩
theorem Grw.push {k : IntKind} {e s : TypeId} (ht : Ty k e s) {w X : World} {f : Nat → Int} {j g c : Nat} (h : Grw k e w f j g c X) (hj : (j + 1) * kb k ≤ 140737488355328) :
    ∃ g' c' X', (Builtin.append_ #[s, s] s #[.slice (some ⟨g, 0, none⟩) j c, .slice (some ⟨X.heap.size, 0, none⟩) 1 1]).run Tryd.prog (X.alloc (.cells #[.int k (f j)] e)) = .ok (.slice (some ⟨g', 0, none⟩) (j + 1) c') X' ∧ Grw k e w f (j + 1) g' c' X' := by
  obtain ⟨ho, hF⟩ := h
  obtain ⟨g', c', X', h1, h2, _, h4⟩ := Go.Proofs.YtbppahmcjifflaaDoor.push ht X w.heap.size g c j (mkL j f) (f j) ho hj hF.size
  refine ⟨g', c', X', h1, by rw [mkL_succ]; exact h2, ?_⟩
  have hg : w.heap.size ≤ g := (own_block ho).1
  exact hF.trans h4 (fun i hi e => by omega)
theorem Grw.drew {k : IntKind} {e : TypeId} {w wr : World} {f : Nat → Int} {j g c : Nat} (h : Grw k e w f j g c wr) (d : Nat) : Grw k e w f j g c (wr.drewN d) := ⟨h.1, h.2.drewN d⟩
theorem Grw.fresh {k : IntKind} {e : TypeId} {w wr : World} {f : Nat → Int} {j g c : Nat} (h : Grw k e w f j g c wr) : Fresh w wr := h.2
theorem Grw.done {k : IntKind} {e : TypeId} {w wr : World} {n g c : Nat} {f : Nat → Int} (h : Grw k e w f n g c wr) (E : Int) : Gives k e (mkL n f) E w (.returned (.tuple #[.slice (some ⟨g, 0, none⟩) n c, zV E])) wr :=
  ⟨_, rfl, by rw [mkL_len]; exact h.1, h.2⟩
theorem Gives_empty (k : IntKind) (e : TypeId) (E : Int) {w W : World} (hF : Fresh w W) : Gives k e [] E w (.returned (.tuple #[.slice (some ⟨W.heap.size, 0, none⟩) 0 0, zV E])) (W.alloc (.cells #[] e)) := ⟨_, rfl, own_empty W _ hF.size _, hF.alloc _⟩

end Go.Proofs.YtbppahmcjifflaaDoor
