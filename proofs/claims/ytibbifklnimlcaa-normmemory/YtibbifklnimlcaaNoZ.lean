/-
  What NormMemory wants of memory: rows that one call made, the same row twice.
-/
import Derived.Test.YtibbifklnimlcaaNoY
import Derived.Test.YtibbifklnimlcaaNog
namespace Go.Proofs.Ytibbifklnimlcaa
open Go.RowKit Go.Lib Go.Maps

theorem Rr.At.low {B C : Nat} {X : World} {r : Rr} (h : r.At C X) (hB : B ≤ C) : r.At B X := own_low h hB
theorem Rs.join {B : Nat} {X X' : World} {l rs : List Rr} (h : Rs B X l) (hk : Fresh X X') (hB : B ≤ X.heap.size) (hr : Rs X.heap.size X' rs) : Rs B X' (l ++ rs) := by
  have h1 := h.fresh hk
  refine ⟨fun r hm => ?_, List.pairwise_append.2 ⟨h1.nd, hr.nd, fun a ha b hb k e1 e2 => ?_⟩⟩
  · rcases List.mem_append.1 hm with e | e
    · exact h1.own r e
    · exact (hr.own r e).low hB
  · have q1 := ((h.own a ha).lt e1).2
    have q2 := ((hr.own b hb).lt e2).1
    omega
theorem MemX.madeL {B : Nat} {X X' : World} {kv : Value} {us : List Value} {F : Nat → List Int} {ex rs : List Rr} (h : MemX B X kv us F ex) (hk : Fresh X X') (hB : B ≤ X.heap.size) (hr : Rs X.heap.size X' rs) : MemX B X' kv us F (ex ++ rs) := by
  have h1 := Rs.join h hk hB hr
  unfold MemX
  rw [← List.append_assoc]
  exact h1
theorem Rs.one {B : Nat} {X : World} {r : Rr} (h : r.At B X) : Rs B X [r] := ⟨fun s hs => by simp at hs; subst hs; exact h, by simp⟩
theorem R8.at {B : Nat} {X : World} {u : Value} {x : List Int} (h : X.ownsRow B 45 1 u x.length (x.map (Value.int .i8))) : (R8 u x).At B X := by
  unfold Rr.At
  simpa using h
/-- A list of the same row twice. -/
theorem OLK.two {B : Nat} {W : World} {v : Value} {R : List Int} (h : OLK .i8 45 31 B W v [R, R]) : ∃ g a1 c1 a2 c2, v = .slice (some ⟨g, 0, none⟩) 2 2 ∧ Rs B W [R8 (.slice a1 R.length c1) R, R8 (.slice a2 R.length c2) R, KR v [.slice a1 R.length c1, .slice a2 R.length c2]] := by
  rcases h with ⟨_, h⟩ | ⟨g, us, h1, h2, h3⟩
  · cases h
  · obtain ⟨g1, c1, e1, o1, n1⟩ := h3.2.1 0 (by simp)
    obtain ⟨g2, c2, e2, o2, n2⟩ := h3.2.1 1 (by simp)
    have hd := h3.2.2 0 1 (by omega) (by simp)
    have hu : us.length = 2 := h3.1
    obtain ⟨u1, u2, rfl⟩ : ∃ u1 u2, us = [u1, u2] := by
      match us, hu with
      | [x, y], _ => exact ⟨x, y, rfl⟩
    have f1 : ([R, R] : List (List Int)).getD 0 [] = R := rfl
    have f2 : ([R, R] : List (List Int)).getD 1 [] = R := rfl
    have k1 : ([u1, u2] : List Value).getD 0 (.slice none 0 0) = u1 := rfl
    have k2 : ([u1, u2] : List Value).getD 1 (.slice none 0 0) = u2 := rfl
    rw [f1, k1] at e1
    rw [f2, k2] at e2
    rw [f1, k1] at o1
    rw [f2, k2] at o2
    rw [k1, k2] at hd
    subst e1
    subst e2
    refine ⟨g, some ⟨g1, 0, none⟩, c1, some ⟨g2, 0, none⟩, c2, h1, ⟨fun r hr => ?_, ?_⟩⟩
    · simp only [List.mem_cons, List.not_mem_nil, or_false] at hr
      rcases hr with e | e | e
      · subst e; exact R8.at o1
      · subst e; exact R8.at o2
      · subst e; exact h2
    · subst h1
      simp only [List.pairwise_cons, List.mem_cons, List.not_mem_nil, or_false, forall_eq_or_imp, forall_eq, Value.ownBlock]
      simp [Value.ownBlock] at hd
      refine ⟨⟨fun k e => ?_, fun k e => ?_⟩, fun k e => ?_, ?_⟩
      · simp at e ⊢; omega
      · simp at e ⊢; omega
      · simp at e ⊢; omega
      · simp
theorem ll_twoK {k : IntKind} {p : Nat → Prop} {W : World} {u : Value} {x : List Int} (hu : Rk k p W u x) (T : TypeId) : LL k (fun _ => True) (W.alloc (.cells #[u, u] T)) (.slice (some ⟨W.heap.size, 0, none⟩) 2 2) [x, x] := by
  refine ⟨_, 2, rfl, by simp, fun _ => ⟨W.heap.size, 0, rfl, trivial, by simp, fun i hi => ⟨u, ?_, ?_⟩⟩, fun e => (by cases e), Nat.le_refl _⟩
  · have hh := heap_alloc_new W (.cells #[u, u] T)
    rw [Lib.cell_of_heap hh, Nat.zero_add]
    match i, hi with
    | 0, _ => rfl
    | 1, _ => rfl
  · have : [x, x].getD i [] = x := by
      match i, hi with
      | 0, _ => rfl
      | 1, _ => rfl
    rw [this]
    exact (hu.fresh ((Kept.refl _ W).alloc _)).mono (fun _ _ => trivial)
theorem ra_two {zs gs : List Int} {I E : Int} {R : List (List Int)} (k : RaIs [zs, zs] gs I E R) : (roE zs gs = 0 → R = [roL zs gs, roL zs gs]) ∧ (roE zs gs ≠ 0 → R = []) := by
  refine ⟨fun h => (k.unique (.inr ⟨fun i hi => ?_, rfl, rfl, rfl⟩)).2.2, fun h => (k.unique (.inl ⟨0, by simp, h, fun _ hh => by omega, rfl, rfl, rfl⟩)).2.2⟩
  match i, hi with
  | 0, _ => exact h
  | 1, _ => exact h
/-- Nothing comes into the list. -/
theorem MemX.app0 {B : Nat} {X : World} {kv bv : Value} {us : List Value} {R : List Int} {ex : List Rr} (h : MemX B X kv us (fun _ => R) ex) (hB : B ≤ X.heap.size) (hb : bv = .slice none 0 0 ∨ ∃ g, bv = .slice (some ⟨g, 0, none⟩) 0 0) (hn : us.length ≤ 1000) :
    ∃ kv' X', (Builtin.append_ #[39, 39] 39 #[kv, bv]).run Try.prog X = .ok kv' X' ∧ MemX B X' kv' us (fun _ => R) ex ∧ Kept (fun k => kv.ownBlock = some k) X X' := by
  obtain ⟨i0, hi0, hz0, hz1, hz2⟩ := info_parts tyL8.info
  rcases hb with rfl | ⟨g, h1⟩
  · exact ⟨kv, X, run_append_owned_none (P := Try.prog) X B _ _ _ i0 1 tyL8.u hi0 kv _ _ h.head, h, Kept.refl _ _⟩
  · subst h1
    have h2 : MemX B X kv us (fun _ => R) (([] : List Value).map (fun u => R8 u R) ++ ex) := h
    obtain ⟨kv', X', q1, q2, q3⟩ := h2.app hB ⟨g, 0, none⟩ 0 0 rfl (fun j u hj => by simp at hj) (fun u hu => by cases hu) (by omega)
    rw [List.append_nil] at q2
    exact ⟨kv', X', q1, q2, q3⟩
theorem OLK.none {k : IntKind} {e s : TypeId} {B : Nat} {W : World} {v : Value} (h : OLK k e s B W v []) : v = .slice Option.none 0 0 ∨ ∃ g, v = .slice (some ⟨g, 0, Option.none⟩) 0 0 := by
  rcases h with ⟨h, _⟩ | ⟨g, us, h1, _⟩
  · exact .inl h
  · exact .inr ⟨g, h1⟩
theorem MemX.rk {B : Nat} {X : World} {kv u : Value} {us : List Value} {F : Nat → List Int} {ex : List Rr} {x : List Int} (h : MemX B X kv us F ex) (hu : R8 u x ∈ ex) (hl : x.length * kb .i8 ≤ 140737488351232) (hz : ∀ z ∈ x, Fit .i8 z) : Rk .i8 (fun b => B ≤ b ∧ b < X.heap.size) X u x := by
  have h1 := h.own _ (List.mem_cons.2 (.inr (List.mem_append.2 (.inr hu))))
  unfold Rr.At at h1
  exact rk_of_own (by simpa using h1) hl hz
theorem MemX.cells2 {B : Nat} {X : World} {kv u1 u2 : Value} {g : Nat} {us : List Value} {F : Nat → List Int} {ex : List Rr} (h : MemX B X kv us F ex) (hu : KR (.slice (some ⟨g, 0, none⟩) 2 2) [u1, u2] ∈ ex) : X.cell? ⟨g, 0, none⟩ = some u1 ∧ X.cell? ⟨g, 1, none⟩ = some u2 := by
  have h1 : X.ownsRow B 31 1 (.slice (some ⟨g, 0, none⟩) 2 2) 2 [u1, u2] := h.own _ (List.mem_cons.2 (.inr (List.mem_append.2 (.inr hu))))
  exact ⟨h1.cellAt 0 (by simp), h1.cellAt 1 (by simp)⟩
theorem MemX.shape {B : Nat} {X : World} {kv : Value} {us : List Value} {F : Nat → List Int} {ex : List Rr} (h : MemX B X kv us F ex) : ∃ ao c, kv = .slice ao us.length c := ownsRow_shape (show X.ownsRow B 31 1 kv us.length us from h.head)
theorem kept_low {B : Nat} {W X X' : World} {kv : Value} {us : List Value} {F : Nat → List Int} {ex : List Rr} (h : MemX B X kv us F ex) (hW : W.heap.size = B) (hF : Fresh W X) (hk : Kept (fun k => kv.ownBlock = some k) X X') : Fresh W X' :=
  hF.trans hk (fun i hi e => by have := (h.head.lt e).1; omega)
end Go.Proofs.Ytibbifklnimlcaa
