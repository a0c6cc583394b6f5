/-
  Packed numbers being made: a struct, and its two rows, each in memory of its own.
-/
import Derived.Test.YtlepdogfgpeogaaVdl
import Derived.Test.YtlepdogfgpeogaaVdg
import Derived.Test.YtlepdogfgpeogaaGmm
namespace Go.Proofs.Ytlepdogfgpeogaa
open Go.RowKit Go.Lib Go.Maps

abbrev U8 (v : Value) (xs : List Int) : Rr := ⟨5, v, xs.map (Value.int .u8)⟩
/-- The struct at P, its shifts and its halves. -/
structure RS (w0 : World) (P B n G : Nat) (sv hv : Value) (xs ys : List Int) (wr : World) : Prop where
  rs : Rs B wr [U8 sv xs, U8 hv ys]
  pc : wr.heap[P]? = some (.cells #[zV n, zV G, sv, hv] 51 (0, 0))
  lt : P < B
  ge : w0.heap.size ≤ P
  sz : B ≤ wr.heap.size
  fr : Fresh w0 wr
theorem RS.fresh {w0 : World} {P B n G : Nat} {sv hv : Value} {xs ys : List Int} {wr X : World} (h : RS w0 P B n G sv hv xs ys wr) (hF : Fresh wr X) : RS w0 P B n G sv hv xs ys X :=
  ⟨h.rs.fresh hF, hF.at h.pc (fun e => e), h.lt, h.ge, Nat.le_trans h.sz hF.size, h.fr.trans hF (fun _ _ e => e)⟩
theorem RS.cells {w0 : World} {P B n G : Nat} {sv hv : Value} {xs ys : List Int} {wr : World} (h : RS w0 P B n G sv hv xs ys wr) : wr.cell? ⟨P, 0, none⟩ = some (zV n) ∧ wr.cell? ⟨P, 1, none⟩ = some (zV G) ∧ wr.cell? ⟨P, 2, none⟩ = some sv ∧ wr.cell? ⟨P, 3, none⟩ = some hv ∧ ∀ i, wr.frozen? ⟨P, i, none⟩ = false :=
  ⟨by rw [Lib.cell_of_heap h.pc]; rfl, by rw [Lib.cell_of_heap h.pc]; rfl, by rw [Lib.cell_of_heap h.pc]; rfl, by rw [Lib.cell_of_heap h.pc]; rfl, fun i => Lib.frozen_of_heap h.pc i⟩
theorem RS.own1 {w0 : World} {P B n G : Nat} {sv hv : Value} {xs ys : List Int} {wr : World} (h : RS w0 P B n G sv hv xs ys wr) : wr.ownsRow B 5 1 sv xs.length (xs.map (Value.int .u8)) := by
  have := h.rs.head
  unfold Rr.At at this
  simpa using this
theorem RS.own2 {w0 : World} {P B n G : Nat} {sv hv : Value} {xs ys : List Int} {wr : World} (h : RS w0 P B n G sv hv xs ys wr) : wr.ownsRow B 5 1 hv ys.length (ys.map (Value.int .u8)) := by
  have := h.rs.tail.head
  unfold Rr.At at this
  simpa using this
theorem U8.at {B : Nat} {X : World} {v : Value} {xs : List Int} (h : X.ownsRow B 5 1 v xs.length (xs.map (Value.int .u8))) : (U8 v xs).At B X := by
  unfold Rr.At
  simpa using h
theorem swap2 {B : Nat} {X : World} {a b : Rr} (h : Rs B X [a, b]) : Rs B X [b, a] := h.perm (List.Perm.swap _ _ _)
/-- One byte behind a row of one's own. -/
theorem pushU (X : World) (B : Nat) (v : Value) (xs : List Int) (x : Int) (r : Rr) (h : Rs B X [U8 v xs, r]) (hB : B ≤ X.heap.size) (hl : xs.length + 1 ≤ 1048577) :
    ∃ a c X', (Builtin.append_ #[46, 46] 46 #[v, .slice (some ⟨X.heap.size, 0, none⟩) 1 1]).run Try.prog (X.alloc (.cells #[.int .u8 x] 5)) = .ok (.slice a (xs.length + 1) c) X' ∧ Rs B X' [U8 (.slice a (xs.length + 1) c) (xs ++ [x]), r] ∧ Kept (fun b => v.ownBlock = some b) X X' := by
  obtain ⟨i0, hi0, hz0, hz1, hz2⟩ := info_parts tyu8.info
  have h0 := h.head
  unfold Rr.At at h0
  have h1 : X.ownsRow B 5 1 v xs.length (xs.map (Value.int .u8)) := by simpa using h0
  have hFa : Fresh X (X.alloc (.cells #[.int .u8 x] 5)) := (Kept.refl _ X).alloc _
  obtain ⟨v', w', hrun, ho, hg, _, hb⟩ := run_append_own_at (P := Try.prog) (X.alloc (.cells #[.int .u8 x] 5)) B 46 46 5 i0 (.int .u8 0) 1 (kb .u8) tyu8.u hi0 hz0 hz1 hz2 rfl (by omega) v xs.length _ (owns_kept h1 hFa (fun _ _ e => e)) ⟨X.heap.size, 0, none⟩ 1 1 [.int .u8 x] rfl (fun q u hq => cell_one_new X (.int .u8 x) 5 q u hq) (fun u hu => by simp at hu; subst hu; rfl) (by unfold maxLen; omega) (by simp only [kb]; omega) (by simp; omega)
  obtain ⟨a, c, hs⟩ := ownsRow_shape ho
  subst hs
  have hk : Kept (fun b => v.ownBlock = some b) X w' := ((Kept.refl (fun b => v.ownBlock = some b) X).alloc _).grown hg (fun q _ e => e)
  refine ⟨a, c, w', hrun, ?_, hk⟩
  refine Rs.turn h hk (U8.at ?_) (fun k e => ?_)
  · rw [List.length_append, List.map_append]; exact ho
  · rcases hb with e2 | e2
    · left; rw [← e2]; exact e
    · right
      have e' : (Value.slice a (xs.length + 1) c).ownBlock = some k := e
      rw [e2] at e'
      simp at e'
      omega
theorem RS.push1 {w0 : World} {P B n G : Nat} {sv hv : Value} {xs ys : List Int} {wr : World} (h : RS w0 P B n G sv hv xs ys wr) (x : Int) (hl : xs.length + 1 ≤ 1048577) :
    ∃ a c X', (Builtin.append_ #[46, 46] 46 #[sv, .slice (some ⟨wr.heap.size, 0, none⟩) 1 1]).run Try.prog (wr.alloc (.cells #[.int .u8 x] 5)) = .ok (.slice a (xs.length + 1) c) X' ∧ (X'.cell? ⟨P, 2, none⟩ = some sv ∧ X'.frozen? ⟨P, 2, none⟩ = false) ∧ RS w0 P B n G (.slice a (xs.length + 1) c) hv (xs ++ [x]) ys (X'.setCell ⟨P, 2, none⟩ (.slice a (xs.length + 1) c)) := by
  obtain ⟨a, c, X', h1, h2, h3⟩ := pushU wr B sv xs x _ h.rs h.sz hl
  have hP : ∀ b, sv.ownBlock = some b → b ≠ P := fun b hb e => by have := (h.rs.head.lt hb).1; have := h.lt; omega
  have hpc := h3.at h.pc (fun e => hP P e rfl)
  refine ⟨a, c, X', h1, ⟨by rw [Lib.cell_of_heap hpc]; rfl, Lib.frozen_of_heap hpc 2⟩, ⟨h2.kept ((Kept.refl (fun b => b = P) X').setCell (p := ⟨P, 2, none⟩) (fun _ => rfl) _) (fun r hr k hk e => ?_), ?_, h.lt, h.ge, Nat.le_trans h.sz (Nat.le_trans h3.size (by simp [World.setCell])), ?_⟩⟩
  · have := ((h2.own r hr).lt hk).1
    have := h.lt
    omega
  · rw [Lib.heap_setCell_same hpc]; rfl
  · exact (h.fr.trans h3 (fun i hi e => by have := (h.rs.head.lt e).1; have := h.lt; have := h.ge; omega)).setCell (fun e => by have := h.ge; have : P < w0.heap.size := e; omega) _
theorem RS.push2 {w0 : World} {P B n G : Nat} {sv hv : Value} {xs ys : List Int} {wr : World} (h : RS w0 P B n G sv hv xs ys wr) (x : Int) (hl : ys.length + 1 ≤ 1048577) :
    ∃ a c X', (Builtin.append_ #[46, 46] 46 #[hv, .slice (some ⟨wr.heap.size, 0, none⟩) 1 1]).run Try.prog (wr.alloc (.cells #[.int .u8 x] 5)) = .ok (.slice a (ys.length + 1) c) X' ∧ (X'.cell? ⟨P, 3, none⟩ = some hv ∧ X'.frozen? ⟨P, 3, none⟩ = false) ∧ RS w0 P B n G sv (.slice a (ys.length + 1) c) xs (ys ++ [x]) (X'.setCell ⟨P, 3, none⟩ (.slice a (ys.length + 1) c)) := by
  obtain ⟨a, c, X', h1, h2, h3⟩ := pushU wr B hv ys x _ (swap2 h.rs) h.sz hl
  have hP : ∀ b, hv.ownBlock = some b → b ≠ P := fun b hb e => by have := (h.rs.tail.head.lt hb).1; have := h.lt; omega
  have hpc := h3.at h.pc (fun e => hP P e rfl)
  refine ⟨a, c, X', h1, ⟨by rw [Lib.cell_of_heap hpc]; rfl, Lib.frozen_of_heap hpc 3⟩, ⟨(swap2 h2).kept ((Kept.refl (fun b => b = P) X').setCell (p := ⟨P, 3, none⟩) (fun _ => rfl) _) (fun r hr k hk e => ?_), ?_, h.lt, h.ge, Nat.le_trans h.sz (Nat.le_trans h3.size (by simp [World.setCell])), ?_⟩⟩
  · have := (((swap2 h2).own r hr).lt hk).1
    have := h.lt
    omega
  · rw [Lib.heap_setCell_same hpc]; rfl
  · exact (h.fr.trans h3 (fun i hi e => by have := (h.rs.tail.head.lt e).1; have := h.lt; have := h.ge; omega)).setCell (fun e => by have := h.ge; have : P < w0.heap.size := e; omega) _
theorem RS.set2 {w0 : World} {P B n G g c : Nat} {sv : Value} {xs ys : List Int} {wr : World} (h : RS w0 P B n G sv (.slice (some ⟨g, 0, none⟩) ys.length c) xs ys wr) (i : Nat) (x : Int) : RS w0 P B n G sv (.slice (some ⟨g, 0, none⟩) ys.length c) xs (ys.set i x) (wr.setCell ⟨g, i, none⟩ (.int .u8 x)) := by
  have h2 := (swap2 h.rs).store (i := i) (u := .int .u8 x) (by simp)
  have hg := (h.rs.tail.head.lt (k := g) (by simp [Value.ownBlock])).1
  refine ⟨?_, ?_, h.lt, h.ge, by simpa [World.setCell] using h.sz, h.fr.setCell (fun e => by have := h.ge; have := h.lt; have : g < w0.heap.size := e; omega) _⟩
  · have := swap2 h2
    rw [← List.map_set] at this
    exact this
  · rw [Below.heap_setCell _ _ _ _ (fun e => by have := h.lt; have : P = g := e.symm ▸ rfl; omega)]
    exact h.pc
end Go.Proofs.Ytlepdogfgpeogaa
