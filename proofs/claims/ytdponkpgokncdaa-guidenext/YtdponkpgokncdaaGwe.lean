/-
  What holds in GuideNext's first region, whichever operations have come up: the guide and the vocabulary as the document has them are made and laid into boxes of two cells.
-/
import Derived.Test.YtdponkpgokncdaaGwd
import Derived.Test.YtdponkpgokncdaaVpa
import Derived.Test.YtdponkpgokncdaaGut
import Derived.Test.YtdponkpgokncdaaRgi
namespace Go.Proofs.Ytdponkpgokncdaa
open Go.RowKit Go.Lib Go.Maps

/-- A box of two cells. -/
def TwC (w : World) (b : Nat) : Prop := (∃ x, w.cell? ⟨b, 0, none⟩ = some x) ∧ (∃ y, w.cell? ⟨b, 1, none⟩ = some y) ∧ ∀ k, w.frozen? ⟨b, k, none⟩ = false
theorem TwC.lt {w : World} {b : Nat} (h : TwC w b) : b < w.heap.size := by
  obtain ⟨⟨x, h0⟩, _⟩ := h
  simpa using World.block_lt_of_cell? w _ h0
theorem TwC.fresh {w w' : World} {b : Nat} (h : TwC w b) (hk : Fresh w w') : TwC w' b := by
  have hb := h.lt
  obtain ⟨⟨x, h0⟩, ⟨y, h1⟩, hf⟩ := h
  exact ⟨⟨x, (hk.cell (p := ⟨b, 0, none⟩) hb (fun e => e)).trans h0⟩, ⟨y, (hk.cell (p := ⟨b, 1, none⟩) hb (fun e => e)).trans h1⟩, fun k => (hk.frozen (p := ⟨b, k, none⟩) hb (fun e => e)).trans (hf k)⟩
theorem TwC.alloc (w : World) (x y : Value) (t : TypeId) : TwC (w.alloc (.cells #[x, y] t)) w.heap.size := by
  have p1 : (w.alloc (.cells #[x, y] t)).heap[w.heap.size]? = some (.cells #[x, y] t (0, 0)) := heap_alloc_new w _
  exact ⟨⟨x, by rw [Lib.cell_of_heap p1]; rfl⟩, ⟨y, by rw [Lib.cell_of_heap p1]; rfl⟩, fun k => Lib.frozen_of_heap p1 k⟩
theorem tw_off {b c i k : Nat} (h : b ≠ c ∨ i ≠ k) : (⟨b, i, none⟩ : Addr) ≠ ⟨c, k, none⟩ := fun e => by
  injection e with e1 e2
  omega
theorem TwC.set {w : World} {b : Nat} (h : TwC w b) (c i : Nat) (x : Value) : TwC (w.setCell ⟨c, i, none⟩ x) b := by
  obtain ⟨⟨a0, h0⟩, ⟨a1, h1⟩, hf⟩ := h
  have one : ∀ k a, w.cell? ⟨b, k, none⟩ = some a → ∃ z, (w.setCell ⟨c, i, none⟩ x).cell? ⟨b, k, none⟩ = some z := fun k a ha => by
    by_cases e : b = c ∧ k = i
    · obtain ⟨rfl, rfl⟩ := e
      exact ⟨x, World.cell?_setCell_same _ _ _ ha⟩
    · exact ⟨a, (World.cell?_setCell_other _ _ _ _ (tw_off (by omega))).trans ha⟩
  exact ⟨one 0 a0 h0, one 1 a1 h1, fun k => by simp [hf k]⟩

structure NxI (W : World) (gv vv : Value) (A : List Bool) (E : List Ed) (T : List (List UInt8)) (M : List Mg) (l : Array Bool) (s7 s8 s12 s13 s14 s15 : Value) (p1 p3 : Nat → Prop) (b7 b8 : Nat) (w : World) : Prop where
  fr : Fresh W w
  c0 : Up l 0 → s12 = gv
  c2 : Up l 2 → s14 = vv
  c4 : Up l 4 → s7 = .pointer (some ⟨b7, 0, none⟩) ∧ W.heap.size ≤ b7 ∧ TwC w b7
  c5 : Up l 5 → s8 = .pointer (some ⟨b8, 0, none⟩) ∧ W.heap.size ≤ b8 ∧ TwC w b8
  cd : Up l 4 → Up l 5 → b7 ≠ b8
  c1 : Up l 1 → ∃ x y, s13 = .agg #[x, y] ∧ RbL p1 w x A ∧ EdR p1 w y E ∧ ∀ b, p1 b → b < w.heap.size
  c3 : Up l 3 → ∃ x y, s15 = .agg #[x, y] ∧ TxR p3 w x T ∧ MgR p3 w y M ∧ ∀ b, p3 b → b < w.heap.size
  c14 : Up l 1 → Up l 4 → ¬ p1 b7
  c15 : Up l 1 → Up l 5 → ¬ p1 b8
  c34 : Up l 3 → Up l 4 → ¬ p3 b7
  c35 : Up l 3 → Up l 5 → ¬ p3 b8
  c6 : Up l 6 → Up l 4 ∧ Up l 1 ∧ ∃ x y, s13 = .agg #[x, y] ∧ w.cell? ⟨b7, 0, none⟩ = some x ∧ w.cell? ⟨b7, 1, none⟩ = some y
  c67 : Up l 7 → Up l 6
  c7 : Up l 7 → Up l 5 ∧ Up l 3 ∧ ∃ x y, s15 = .agg #[x, y] ∧ w.cell? ⟨b8, 0, none⟩ = some x ∧ w.cell? ⟨b8, 1, none⟩ = some y
section
variable {W : World} {gv vv : Value} {A : List Bool} {E : List Ed} {T : List (List UInt8)} {M : List Mg} {l : Array Bool} {s7 s8 s12 s13 s14 s15 : Value} {p1 p3 : Nat → Prop} {b7 b8 : Nat} {w w' : World}
theorem NxI.kept (h : NxI W gv vv A E T M l s7 s8 s12 s13 s14 s15 p1 p3 b7 b8 w) (hk : Fresh w w') : NxI W gv vv A E T M l s7 s8 s12 s13 s14 s15 p1 p3 b7 b8 w' where
  fr := h.fr.trans hk (fun _ _ e => e)
  c0 := h.c0
  c2 := h.c2
  c4 := fun u => ⟨(h.c4 u).1, (h.c4 u).2.1, (h.c4 u).2.2.fresh hk⟩
  c5 := fun u => ⟨(h.c5 u).1, (h.c5 u).2.1, (h.c5 u).2.2.fresh hk⟩
  cd := h.cd
  c1 := fun u => by
    obtain ⟨x, y, e, h1, h2, h3⟩ := h.c1 u
    exact ⟨x, y, e, h1.fresh hk, h2.fresh hk, fun b hb => Nat.lt_of_lt_of_le (h3 b hb) hk.size⟩
  c3 := fun u => by
    obtain ⟨x, y, e, h1, h2, h3⟩ := h.c3 u
    exact ⟨x, y, e, h1.fresh hk, h2.fresh hk, fun b hb => Nat.lt_of_lt_of_le (h3 b hb) hk.size⟩
  c14 := h.c14
  c15 := h.c15
  c34 := h.c34
  c35 := h.c35
  c6 := fun u => by
    obtain ⟨u4, u1, x, y, e, h1, h2⟩ := h.c6 u
    have hb := (h.c4 u4).2.2.lt
    exact ⟨u4, u1, x, y, e, (hk.cell (p := ⟨b7, 0, none⟩) hb (fun e => e)).trans h1, (hk.cell (p := ⟨b7, 1, none⟩) hb (fun e => e)).trans h2⟩
  c67 := h.c67
  c7 := fun u => by
    obtain ⟨u4, u1, x, y, e, h1, h2⟩ := h.c7 u
    have hb := (h.c5 u4).2.2.lt
    exact ⟨u4, u1, x, y, e, (hk.cell (p := ⟨b8, 0, none⟩) hb (fun e => e)).trans h1, (hk.cell (p := ⟨b8, 1, none⟩) hb (fun e => e)).trans h2⟩
theorem up_dn {l : Array Bool} {i j : Nat} (h : i ≠ j) (u : Up (l.setIfInBounds i true) j) : Up l j := (up_set_ne h).1 u
theorem up_up {l : Array Bool} {i j : Nat} (h : i ≠ j) (u : Up l j) : Up (l.setIfInBounds i true) j := (up_set_ne h).2 u
theorem NxI.set0 (h : NxI W gv vv A E T M l s7 s8 s12 s13 s14 s15 p1 p3 b7 b8 w) : NxI W gv vv A E T M (l.setIfInBounds 0 true) s7 s8 gv s13 s14 s15 p1 p3 b7 b8 w where
  fr := h.fr
  c0 := fun _ => rfl
  c2 := fun u => h.c2 (up_dn (by decide) u)
  c4 := fun u => h.c4 (up_dn (by decide) u)
  c5 := fun u => h.c5 (up_dn (by decide) u)
  cd := fun u v => h.cd (up_dn (by decide) u) (up_dn (by decide) v)
  c1 := fun u => h.c1 (up_dn (by decide) u)
  c3 := fun u => h.c3 (up_dn (by decide) u)
  c14 := fun u v => h.c14 (up_dn (by decide) u) (up_dn (by decide) v)
  c15 := fun u v => h.c15 (up_dn (by decide) u) (up_dn (by decide) v)
  c34 := fun u v => h.c34 (up_dn (by decide) u) (up_dn (by decide) v)
  c35 := fun u v => h.c35 (up_dn (by decide) u) (up_dn (by decide) v)
  c6 := fun u => ⟨up_up (by decide) (h.c6 (up_dn (by decide) u)).1, up_up (by decide) (h.c6 (up_dn (by decide) u)).2.1, (h.c6 (up_dn (by decide) u)).2.2⟩
  c67 := fun u => up_up (by decide) (h.c67 (up_dn (by decide) u))
  c7 := fun u => ⟨up_up (by decide) (h.c7 (up_dn (by decide) u)).1, up_up (by decide) (h.c7 (up_dn (by decide) u)).2.1, (h.c7 (up_dn (by decide) u)).2.2⟩
theorem NxI.set2 (h : NxI W gv vv A E T M l s7 s8 s12 s13 s14 s15 p1 p3 b7 b8 w) : NxI W gv vv A E T M (l.setIfInBounds 2 true) s7 s8 s12 s13 vv s15 p1 p3 b7 b8 w where
  fr := h.fr
  c0 := fun u => h.c0 (up_dn (by decide) u)
  c2 := fun _ => rfl
  c4 := fun u => h.c4 (up_dn (by decide) u)
  c5 := fun u => h.c5 (up_dn (by decide) u)
  cd := fun u v => h.cd (up_dn (by decide) u) (up_dn (by decide) v)
  c1 := fun u => h.c1 (up_dn (by decide) u)
  c3 := fun u => h.c3 (up_dn (by decide) u)
  c14 := fun u v => h.c14 (up_dn (by decide) u) (up_dn (by decide) v)
  c15 := fun u v => h.c15 (up_dn (by decide) u) (up_dn (by decide) v)
  c34 := fun u v => h.c34 (up_dn (by decide) u) (up_dn (by decide) v)
  c35 := fun u v => h.c35 (up_dn (by decide) u) (up_dn (by decide) v)
  c6 := fun u => ⟨up_up (by decide) (h.c6 (up_dn (by decide) u)).1, up_up (by decide) (h.c6 (up_dn (by decide) u)).2.1, (h.c6 (up_dn (by decide) u)).2.2⟩
  c67 := fun u => up_up (by decide) (h.c67 (up_dn (by decide) u))
  c7 := fun u => ⟨up_up (by decide) (h.c7 (up_dn (by decide) u)).1, up_up (by decide) (h.c7 (up_dn (by decide) u)).2.1, (h.c7 (up_dn (by decide) u)).2.2⟩
/-- given has come: what it made is new, so no box lies in it; nothing was stored before. -/
theorem NxI.set1 (h : NxI W gv vv A E T M l s7 s8 s12 s13 s14 s15 p1 p3 b7 b8 w) (hk : Fresh w w') (hn : ¬ Up l 6) {x y : Value} (hA : RbL (fun b => w.heap.size ≤ b ∧ b < w'.heap.size) w' x A) (hE : EdR (fun b => w.heap.size ≤ b ∧ b < w'.heap.size) w' y E) :
    NxI W gv vv A E T M (l.setIfInBounds 1 true) s7 s8 s12 (.agg #[x, y]) s14 s15 (fun b => w.heap.size ≤ b ∧ b < w'.heap.size) p3 b7 b8 w' where
  fr := (h.kept hk).fr
  c0 := fun u => h.c0 (up_dn (by decide) u)
  c2 := fun u => h.c2 (up_dn (by decide) u)
  c4 := fun u => (h.kept hk).c4 (up_dn (by decide) u)
  c5 := fun u => (h.kept hk).c5 (up_dn (by decide) u)
  cd := fun u v => h.cd (up_dn (by decide) u) (up_dn (by decide) v)
  c1 := fun _ => ⟨x, y, rfl, hA, hE, fun b hb => hb.2⟩
  c3 := fun u => (h.kept hk).c3 (up_dn (by decide) u)
  c14 := fun _ v e => Nat.lt_irrefl _ (Nat.lt_of_lt_of_le (h.c4 (up_dn (by decide) v)).2.2.lt e.1)
  c15 := fun _ v e => Nat.lt_irrefl _ (Nat.lt_of_lt_of_le (h.c5 (up_dn (by decide) v)).2.2.lt e.1)
  c34 := fun u v => h.c34 (up_dn (by decide) u) (up_dn (by decide) v)
  c35 := fun u v => h.c35 (up_dn (by decide) u) (up_dn (by decide) v)
  c6 := fun u => absurd (up_dn (by decide) u) hn
  c67 := fun u => up_up (by decide) (h.c67 (up_dn (by decide) u))
  c7 := fun u => ⟨up_up (by decide) ((h.kept hk).c7 (up_dn (by decide) u)).1, up_up (by decide) ((h.kept hk).c7 (up_dn (by decide) u)).2.1, ((h.kept hk).c7 (up_dn (by decide) u)).2.2⟩
theorem NxI.set3 (h : NxI W gv vv A E T M l s7 s8 s12 s13 s14 s15 p1 p3 b7 b8 w) (hk : Fresh w w') (hn : ¬ Up l 7) {x y : Value} (hA : TxR (fun b => w.heap.size ≤ b ∧ b < w'.heap.size) w' x T) (hE : MgR (fun b => w.heap.size ≤ b ∧ b < w'.heap.size) w' y M) :
    NxI W gv vv A E T M (l.setIfInBounds 3 true) s7 s8 s12 s13 s14 (.agg #[x, y]) p1 (fun b => w.heap.size ≤ b ∧ b < w'.heap.size) b7 b8 w' where
  fr := (h.kept hk).fr
  c0 := fun u => h.c0 (up_dn (by decide) u)
  c2 := fun u => h.c2 (up_dn (by decide) u)
  c4 := fun u => (h.kept hk).c4 (up_dn (by decide) u)
  c5 := fun u => (h.kept hk).c5 (up_dn (by decide) u)
  cd := fun u v => h.cd (up_dn (by decide) u) (up_dn (by decide) v)
  c1 := fun u => (h.kept hk).c1 (up_dn (by decide) u)
  c3 := fun _ => ⟨x, y, rfl, hA, hE, fun b hb => hb.2⟩
  c14 := fun u v => h.c14 (up_dn (by decide) u) (up_dn (by decide) v)
  c15 := fun u v => h.c15 (up_dn (by decide) u) (up_dn (by decide) v)
  c34 := fun _ v e => Nat.lt_irrefl _ (Nat.lt_of_lt_of_le (h.c4 (up_dn (by decide) v)).2.2.lt e.1)
  c35 := fun _ v e => Nat.lt_irrefl _ (Nat.lt_of_lt_of_le (h.c5 (up_dn (by decide) v)).2.2.lt e.1)
  c6 := fun u => ⟨up_up (by decide) ((h.kept hk).c6 (up_dn (by decide) u)).1, up_up (by decide) ((h.kept hk).c6 (up_dn (by decide) u)).2.1, ((h.kept hk).c6 (up_dn (by decide) u)).2.2⟩
  c67 := fun u => absurd (up_dn (by decide) u) hn
  c7 := fun u => absurd (up_dn (by decide) u) hn
theorem NxI.set4 (h : NxI W gv vv A E T M l s7 s8 s12 s13 s14 s15 p1 p3 b7 b8 w) (hn : ¬ Up l 6) (x y : Value) (t : TypeId) :
    NxI W gv vv A E T M (l.setIfInBounds 4 true) (.pointer (some ⟨w.heap.size, 0, none⟩)) s8 s12 s13 s14 s15 p1 p3 w.heap.size b8 (w.alloc (.cells #[x, y] t)) where
  fr := h.fr.alloc _
  c0 := fun u => h.c0 (up_dn (by decide) u)
  c2 := fun u => h.c2 (up_dn (by decide) u)
  c4 := fun _ => ⟨rfl, h.fr.size, TwC.alloc _ _ _ _⟩
  c5 := fun u => (h.kept ((Kept.refl _ w).alloc _)).c5 (up_dn (by decide) u)
  cd := fun _ v => (Nat.ne_of_lt (h.c5 (up_dn (by decide) v)).2.2.lt).symm
  c1 := fun u => (h.kept ((Kept.refl _ w).alloc _)).c1 (up_dn (by decide) u)
  c3 := fun u => (h.kept ((Kept.refl _ w).alloc _)).c3 (up_dn (by decide) u)
  c14 := fun u _ e => by
    obtain ⟨_, _, _, _, _, h3⟩ := h.c1 (up_dn (by decide) u)
    exact Nat.lt_irrefl _ (h3 _ e)
  c15 := fun u v => h.c15 (up_dn (by decide) u) (up_dn (by decide) v)
  c34 := fun u _ e => by
    obtain ⟨_, _, _, _, _, h3⟩ := h.c3 (up_dn (by decide) u)
    exact Nat.lt_irrefl _ (h3 _ e)
  c35 := fun u v => h.c35 (up_dn (by decide) u) (up_dn (by decide) v)
  c6 := fun u => absurd (up_dn (by decide) u) hn
  c67 := fun u => up_up (by decide) (h.c67 (up_dn (by decide) u))
  c7 := fun u => by
    obtain ⟨h1, h2, h3⟩ := (h.kept ((Kept.refl _ w).alloc (.cells #[x, y] t))).c7 (up_dn (by decide) u)
    exact ⟨up_up (by decide) h1, up_up (by decide) h2, h3⟩
theorem NxI.set5 (h : NxI W gv vv A E T M l s7 s8 s12 s13 s14 s15 p1 p3 b7 b8 w) (hn : ¬ Up l 7) (x y : Value) (t : TypeId) :
    NxI W gv vv A E T M (l.setIfInBounds 5 true) s7 (.pointer (some ⟨w.heap.size, 0, none⟩)) s12 s13 s14 s15 p1 p3 b7 w.heap.size (w.alloc (.cells #[x, y] t)) where
  fr := h.fr.alloc _
  c0 := fun u => h.c0 (up_dn (by decide) u)
  c2 := fun u => h.c2 (up_dn (by decide) u)
  c4 := fun u => (h.kept ((Kept.refl _ w).alloc _)).c4 (up_dn (by decide) u)
  c5 := fun _ => ⟨rfl, h.fr.size, TwC.alloc _ _ _ _⟩
  cd := fun u _ => Nat.ne_of_lt (h.c4 (up_dn (by decide) u)).2.2.lt
  c1 := fun u => (h.kept ((Kept.refl _ w).alloc _)).c1 (up_dn (by decide) u)
  c3 := fun u => (h.kept ((Kept.refl _ w).alloc _)).c3 (up_dn (by decide) u)
  c14 := fun u v => h.c14 (up_dn (by decide) u) (up_dn (by decide) v)
  c15 := fun u _ e => by
    obtain ⟨_, _, _, _, _, h3⟩ := h.c1 (up_dn (by decide) u)
    exact Nat.lt_irrefl _ (h3 _ e)
  c34 := fun u v => h.c34 (up_dn (by decide) u) (up_dn (by decide) v)
  c35 := fun u _ e => by
    obtain ⟨_, _, _, _, _, h3⟩ := h.c3 (up_dn (by decide) u)
    exact Nat.lt_irrefl _ (h3 _ e)
  c6 := fun u => by
    obtain ⟨h1, h2, h3⟩ := (h.kept ((Kept.refl _ w).alloc (.cells #[x, y] t))).c6 (up_dn (by decide) u)
    exact ⟨up_up (by decide) h1, up_up (by decide) h2, h3⟩
  c67 := fun u => absurd (up_dn (by decide) u) hn
  c7 := fun u => absurd (up_dn (by decide) u) hn
/-- The guide's box is filled. -/
theorem NxI.set6 (h : NxI W gv vv A E T M l s7 s8 s12 s13 s14 s15 p1 p3 b7 b8 w) (u1 : Up l 1) (u4 : Up l 4) (n7 : ¬ Up l 7) {x y : Value} (he : s13 = .agg #[x, y]) :
    NxI W gv vv A E T M (l.setIfInBounds 6 true) s7 s8 s12 s13 s14 s15 p1 p3 b7 b8 ((w.setCell ⟨b7, 0, none⟩ x).setCell ⟨b7, 1, none⟩ y) := by
  obtain ⟨e7, hb7, ht⟩ := h.c4 u4
  have hk : Kept (fun b => b = b7) w ((w.setCell ⟨b7, 0, none⟩ x).setCell ⟨b7, 1, none⟩ y) := ((Kept.refl (fun b => b = b7) w).setCell (p := ⟨b7, 0, none⟩) (fun _ => rfl) x).setCell (p := ⟨b7, 1, none⟩) (fun _ => rfl) y
  have h0 := ht.1
  have h1 := ht.2.1
  obtain ⟨x0, h0⟩ := h0
  obtain ⟨y0, h1⟩ := h1
  refine ⟨h.fr.trans hk (fun i hi e => ?_), fun u => h.c0 (up_dn (by decide) u), fun u => h.c2 (up_dn (by decide) u), fun u => ⟨e7, hb7, (ht.set _ _ _).set _ _ _⟩, fun u => ⟨(h.c5 (up_dn (by decide) u)).1, (h.c5 (up_dn (by decide) u)).2.1, ((h.c5 (up_dn (by decide) u)).2.2.set _ _ _).set _ _ _⟩,
    fun u v => h.cd (up_dn (by decide) u) (up_dn (by decide) v), fun u => ?_, fun u => ?_, fun u v => h.c14 (up_dn (by decide) u) (up_dn (by decide) v), fun u v => h.c15 (up_dn (by decide) u) (up_dn (by decide) v), fun u v => h.c34 (up_dn (by decide) u) (up_dn (by decide) v), fun u v => h.c35 (up_dn (by decide) u) (up_dn (by decide) v), fun _ => ⟨up_up (by decide) u4, up_up (by decide) u1, x, y, he, ?_, ?_⟩, fun u => absurd (up_dn (by decide) u) n7, fun u => absurd (up_dn (by decide) u) n7⟩
  · have e : i = b7 := e
    omega
  · obtain ⟨a, b, ea, k1, k2, k3⟩ := h.c1 (up_dn (by decide) u)
    have hp := h.c14 (up_dn (by decide) u) u4
    exact ⟨a, b, ea, k1.kept hk (fun i hi _ e => hp (e ▸ hi)), k2.kept hk (fun i hi _ e => hp (e ▸ hi)), fun i hi => Nat.lt_of_lt_of_le (k3 i hi) hk.size⟩
  · obtain ⟨a, b, ea, k1, k2, k3⟩ := h.c3 (up_dn (by decide) u)
    have hp := h.c34 (up_dn (by decide) u) u4
    exact ⟨a, b, ea, k1.kept hk (fun i hi e => hp (e ▸ hi)), k2.kept hk (fun i hi e => hp (e ▸ hi)), fun i hi => Nat.lt_of_lt_of_le (k3 i hi) hk.size⟩
  · exact (World.cell?_setCell_other _ _ _ _ (tw_off (by omega))).trans (World.cell?_setCell_same _ _ _ h0)
  · exact World.cell?_setCell_same _ _ _ ((World.cell?_setCell_other _ _ _ _ (tw_off (by omega))).trans h1)
theorem NxI.set7 (h : NxI W gv vv A E T M l s7 s8 s12 s13 s14 s15 p1 p3 b7 b8 w) (u3 : Up l 3) (u5 : Up l 5) (u6 : Up l 6) {x y : Value} (he : s15 = .agg #[x, y]) :
    NxI W gv vv A E T M (l.setIfInBounds 7 true) s7 s8 s12 s13 s14 s15 p1 p3 b7 b8 ((w.setCell ⟨b8, 0, none⟩ x).setCell ⟨b8, 1, none⟩ y) := by
  obtain ⟨e7, hb7, ht⟩ := h.c5 u5
  have hk : Kept (fun b => b = b8) w ((w.setCell ⟨b8, 0, none⟩ x).setCell ⟨b8, 1, none⟩ y) := ((Kept.refl (fun b => b = b8) w).setCell (p := ⟨b8, 0, none⟩) (fun _ => rfl) x).setCell (p := ⟨b8, 1, none⟩) (fun _ => rfl) y
  have h0 := ht.1
  have h1 := ht.2.1
  obtain ⟨x0, h0⟩ := h0
  obtain ⟨y0, h1⟩ := h1
  refine ⟨h.fr.trans hk (fun i hi e => ?_), fun u => h.c0 (up_dn (by decide) u), fun u => h.c2 (up_dn (by decide) u), fun u => ⟨(h.c4 (up_dn (by decide) u)).1, (h.c4 (up_dn (by decide) u)).2.1, ((h.c4 (up_dn (by decide) u)).2.2.set _ _ _).set _ _ _⟩, fun u => ⟨e7, hb7, (ht.set _ _ _).set _ _ _⟩,
    fun u v => h.cd (up_dn (by decide) u) (up_dn (by decide) v), fun u => ?_, fun u => ?_, fun u v => h.c14 (up_dn (by decide) u) (up_dn (by decide) v), fun u v => h.c15 (up_dn (by decide) u) (up_dn (by decide) v), fun u v => h.c34 (up_dn (by decide) u) (up_dn (by decide) v), fun u v => h.c35 (up_dn (by decide) u) (up_dn (by decide) v), fun u => ?_, fun _ => up_up (by decide) u6, fun _ => ⟨up_up (by decide) u5, up_up (by decide) u3, x, y, he, ?_, ?_⟩⟩
  · have e : i = b8 := e
    omega
  · obtain ⟨a, b, ea, k1, k2, k3⟩ := h.c1 (up_dn (by decide) u)
    have hp := h.c15 (up_dn (by decide) u) u5
    exact ⟨a, b, ea, k1.kept hk (fun i hi _ e => hp (e ▸ hi)), k2.kept hk (fun i hi _ e => hp (e ▸ hi)), fun i hi => Nat.lt_of_lt_of_le (k3 i hi) hk.size⟩
  · obtain ⟨a, b, ea, k1, k2, k3⟩ := h.c3 (up_dn (by decide) u)
    have hp := h.c35 (up_dn (by decide) u) u5
    exact ⟨a, b, ea, k1.kept hk (fun i hi e => hp (e ▸ hi)), k2.kept hk (fun i hi e => hp (e ▸ hi)), fun i hi => Nat.lt_of_lt_of_le (k3 i hi) hk.size⟩
  · obtain ⟨v4, v1, a, b, ea, k1, k2⟩ := h.c6 (up_dn (by decide) u)
    have hd := h.cd v4 u5
    exact ⟨up_up (by decide) v4, up_up (by decide) v1, a, b, ea, (World.cell?_setCell_other _ _ _ _ (tw_off (by omega))).trans ((World.cell?_setCell_other _ _ _ _ (tw_off (by omega))).trans k1), (World.cell?_setCell_other _ _ _ _ (tw_off (by omega))).trans ((World.cell?_setCell_other _ _ _ _ (tw_off (by omega))).trans k2)⟩
  · exact (World.cell?_setCell_other _ _ _ _ (tw_off (by omega))).trans (World.cell?_setCell_same _ _ _ h0)
  · exact World.cell?_setCell_same _ _ _ ((World.cell?_setCell_other _ _ _ _ (tw_off (by omega))).trans h1)
end
end Go.Proofs.Ytdponkpgokncdaa
