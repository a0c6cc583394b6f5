/-
  Two rows that grow beside one another.
-/
import Derived.Test.YtkemaofclahaiaaDoorGrw
namespace Go.Proofs.YtkemaofclahaiaaDoor
open Go.RowKit Go.Lib Go.Maps

/-- What a function that makes two lists of numbers leaves: the lists, each in memory of its own, and an error. -/
def Gives2 (A B : List Int) (E : Int) (w : World) (x : Ending) (w' : World) : Prop :=
  ∃ u v, x = .returned (.tuple #[u, v, zV E]) ∧ w'.ownsRow w.heap.size 33 1 u A.length (A.map (Value.int .i8)) ∧ w'.ownsRow w.heap.size 33 1 v B.length (B.map (Value.int .i8)) ∧ (∀ g, u.ownBlock = some g → v.ownBlock ≠ some g) ∧ Fresh w w'
theorem Gives2.none (E : Int) (w : World) : Gives2 [] [] E w (.returned (.tuple #[.slice none 0 0, .slice none 0 0, zV E])) w := ⟨_, _, rfl, own_nil _ _ _, own_nil _ _ _, fun g e => by simp [Value.ownBlock] at e, Kept.refl _ _⟩
theorem Gives2.rows {A B : List Int} {E : Int} {w w' : World} {x : Ending} (h : Gives2 A B E w x w') (ha : A.length * 1 ≤ 140737488351232) (hb : B.length * 1 ≤ 140737488351232) (za : ∀ z ∈ A, C8 z) (zb : ∀ z ∈ B, C8 z) :
    ∃ u v, x = .returned (.tuple #[u, v, zV E]) ∧ Rk .i8 (fun b => w.heap.size ≤ b ∧ b < w'.heap.size) w' u A ∧ Rk .i8 (fun b => w.heap.size ≤ b ∧ b < w'.heap.size) w' v B ∧ Fresh w w' := by
  obtain ⟨u, v, h1, h2, h3, _, h4⟩ := h
  exact ⟨u, v, h1, rk_of_own h2 ha za, rk_of_own h3 hb zb, h4⟩
/-- Two rows that grow. -/
def Gr2 (w : World) (f1 f2 : Nat → Int) (j1 j2 g1 c1 g2 c2 : Nat) (X : World) : Prop :=
  X.ownsRow w.heap.size 33 1 (.slice (some ⟨g1, 0, none⟩) j1 c1) j1 ((mkL j1 f1).map (Value.int .i8)) ∧ X.ownsRow w.heap.size 33 1 (.slice (some ⟨g2, 0, none⟩) j2 c2) j2 ((mkL j2 f2).map (Value.int .i8)) ∧ g1 ≠ g2 ∧ Fresh w X
theorem Gr2.fresh {w X X' : World} {f1 f2 : Nat → Int} {j1 j2 g1 c1 g2 c2 : Nat} (h : Gr2 w f1 f2 j1 j2 g1 c1 g2 c2 X) (hF : Fresh X X') : Gr2 w f1 f2 j1 j2 g1 c1 g2 c2 X' :=
  ⟨owns_kept h.1 hF (fun _ _ e => e), owns_kept h.2.1 hF (fun _ _ e => e), h.2.2.1, h.2.2.2.trans hF (fun _ _ e => e)⟩
theorem Gr2.old {w X : World} {f1 f2 : Nat → Int} {j1 j2 g1 c1 g2 c2 : Nat} (h : Gr2 w f1 f2 j1 j2 g1 c1 g2 c2 X) : Fresh w X := h.2.2.2
theorem Gr2.flip {w X : World} {f1 f2 : Nat → Int} {j1 j2 g1 c1 g2 c2 : Nat} (h : Gr2 w f1 f2 j1 j2 g1 c1 g2 c2 X) : Gr2 w f2 f1 j2 j1 g2 c2 g1 c1 X := ⟨h.2.1, h.1, fun e => h.2.2.1 e.symm, h.2.2.2⟩
theorem Gr2.push {w X : World} {f1 f2 : Nat → Int} {j1 j2 g1 c1 g2 c2 : Nat} (h : Gr2 w f1 f2 j1 j2 g1 c1 g2 c2 X) (hj : (j1 + 1) * 1 ≤ 140737488355328) :
    ∃ g' c' X', (Builtin.append_ #[22, 22] 22 #[.slice (some ⟨g1, 0, none⟩) j1 c1, .slice (some ⟨X.heap.size, 0, none⟩) 1 1]).run Tryd.prog (X.alloc (.cells #[.int .i8 (f1 j1)] 33)) = .ok (.slice (some ⟨g', 0, none⟩) (j1 + 1) c') X' ∧ Gr2 w f1 f2 (j1 + 1) j2 g' c' g2 c2 X' := by
  obtain ⟨ho, ho2, hne, hF⟩ := h
  obtain ⟨g', c', X', h1, h2, h3, h4⟩ := Go.Proofs.YtkemaofclahaiaaDoor.push ty8 X w.heap.size g1 c1 j1 (mkL j1 f1) (f1 j1) ho hj hF.size
  have b1 := own_block ho
  have b2 := own_block ho2
  refine ⟨g', c', X', h1, by rw [mkL_succ]; exact h2, owns_kept ho2 h4 (fun g e => by simp [Value.ownBlock] at e; omega), by omega, hF.trans h4 (fun i hi e => by omega)⟩
theorem Gr2.push' {w X : World} {f1 f2 : Nat → Int} {j1 j2 g1 c1 g2 c2 : Nat} (h : Gr2 w f1 f2 j1 j2 g1 c1 g2 c2 X) (hj : (j2 + 1) * 1 ≤ 140737488355328) :
    ∃ g' c' X', (Builtin.append_ #[22, 22] 22 #[.slice (some ⟨g2, 0, none⟩) j2 c2, .slice (some ⟨X.heap.size, 0, none⟩) 1 1]).run Tryd.prog (X.alloc (.cells #[.int .i8 (f2 j2)] 33)) = .ok (.slice (some ⟨g', 0, none⟩) (j2 + 1) c') X' ∧ Gr2 w f1 f2 j1 (j2 + 1) g1 c1 g' c' X' := by
  obtain ⟨g', c', X', h1, h2⟩ := h.flip.push hj
  exact ⟨g', c', X', h1, h2.flip⟩
theorem Gr2.done {w X : World} {f1 f2 : Nat → Int} {n g1 c1 g2 c2 : Nat} (h : Gr2 w f1 f2 n n g1 c1 g2 c2 X) (E : Int) : Gives2 (mkL n f1) (mkL n f2) E w (.returned (.tuple #[.slice (some ⟨g1, 0, none⟩) n c1, .slice (some ⟨g2, 0, none⟩) n c2, zV E])) X :=
  ⟨_, _, rfl, by rw [mkL_len]; exact h.1, by rw [mkL_len]; exact h.2.1, fun g e => by simp [Value.ownBlock] at e ⊢; intro e2; exact h.2.2.1 (e.trans e2.symm), h.2.2.2⟩
/-- Two rows made with room. -/
theorem Gr2.made (w X : World) (f1 f2 : Nat → Int) (n : Nat) (hX : Fresh w X) (hn : n ≤ 140737488351232) :
    Gr2 w f1 f2 0 0 X.heap.size n (X.heap.size + 1) n ((X.alloc (.cells ((List.replicate n (0 : Int)).map (Value.int .i8)).toArray 33)).alloc (.cells ((List.replicate n (0 : Int)).map (Value.int .i8)).toArray 33)) := by
  have h1 := own_made .i8 33 X w.heap.size hX.size 0 n (Nat.zero_le _) hn
  have h2 := own_made .i8 33 (X.alloc (.cells ((List.replicate n (0 : Int)).map (Value.int .i8)).toArray 33)) w.heap.size (by have := hX.size; simp; omega) 0 n (Nat.zero_le _) hn
  rw [World.size_alloc] at h2
  exact ⟨owns_kept h1 ((Kept.refl (fun _ => False) _).alloc _) (fun _ _ e => e), h2, by omega, (hX.alloc _).alloc _⟩
/-- Two empty rows. -/
theorem Gr2.start (w X : World) (f1 f2 : Nat → Int) (hX : Fresh w X) : Gr2 w f1 f2 0 0 X.heap.size 0 (X.heap.size + 1) 0 ((X.alloc (.cells #[] 33)).alloc (.cells #[] 33)) := by
  have h1 := own_empty X w.heap.size hX.size 33
  have h2 := own_empty (X.alloc (.cells #[] 33)) w.heap.size (by have := hX.size; simp; omega) 33
  rw [World.size_alloc] at h2
  exact ⟨owns_kept h1 ((Kept.refl (fun _ => False) _).alloc _) (fun _ _ e => e), h2, by omega, (hX.alloc _).alloc _⟩
end Go.Proofs.YtkemaofclahaiaaDoor
