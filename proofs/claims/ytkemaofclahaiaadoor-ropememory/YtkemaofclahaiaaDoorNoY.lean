/-
  Rows of 8 bits, each in memory of its own, and the list that holds them: one more behind them, a store into one, one grown.
-/
import Derived.Test.YtkemaofclahaiaaDoorGmm
namespace Go.Proofs.YtkemaofclahaiaaDoor
open Go.RowKit Go.Lib Go.Maps

theorem perm_at {α : Type} : ∀ (l : List α) (i : Nat) (h : i < l.length), l.Perm (l[i] :: l.eraseIdx i)
  | _ :: _, 0, _ => List.Perm.refl _
  | a :: l, i + 1, h => ((perm_at l i (by simpa using h)).cons a).trans (List.Perm.swap _ _ _)
/-- A row that is one of these is changed within its block, or laid anew. -/
theorem Rs.turnAt {B i : Nat} {X X' : World} {r' : Rr} {l : List Rr} (h : Rs B X l) (hi : i < l.length) (hk : Kept (fun k => (l[i]).v.ownBlock = some k) X X') (hr : r'.At B X') (hb : ∀ k, r'.v.ownBlock = some k → (l[i]).v.ownBlock = some k ∨ X.heap.size ≤ k) : Rs B X' (l.set i r') := by
  have h1 := (h.perm (perm_at l i hi)).turn hk hr hb
  have h2 := perm_at (l.set i r') i (by simpa using hi)
  rw [List.getElem_set_self, List.eraseIdx_set_eq] at h2
  exact h1.perm h2.symm

/-- A row of numbers of 8 bits; a list of rows. -/
abbrev R8 (u : Value) (x : List Int) : Rr := ⟨33, u, x.map (Value.int .i8)⟩
abbrev KR (kv : Value) (us : List Value) : Rr := ⟨22, kv, us⟩
abbrev nilS : Value := .slice none 0 0
def rowsOf (us : List Value) (F : Nat → List Int) : List Rr := (List.range us.length).map (fun p => R8 (us.getD p nilS) (F p))
theorem rowsOf_len (us : List Value) (F : Nat → List Int) : (rowsOf us F).length = us.length := by simp [rowsOf]
theorem rowsOf_get {us : List Value} {F : Nat → List Int} {p : Nat} (_h : p < us.length) (h' : p < (rowsOf us F).length) : (rowsOf us F)[p] = R8 (us.getD p nilS) (F p) := by simp [rowsOf]
/-- A list of rows, each in memory of its own, and more rows besides. -/
def MemX (B : Nat) (X : World) (kv : Value) (us : List Value) (F : Nat → List Int) (ex : List Rr) : Prop := Rs B X (KR kv us :: (rowsOf us F ++ ex))
theorem MemX.fresh {B : Nat} {X X' : World} {kv : Value} {us : List Value} {F : Nat → List Int} {ex : List Rr} (h : MemX B X kv us F ex) (hk : Fresh X X') : MemX B X' kv us F ex := Rs.fresh h hk
theorem MemX.start {B : Nat} {X : World} (F : Nat → List Int) (hB : B ≤ X.heap.size) : MemX B (X.alloc (.cells #[] 22)) (.slice (some ⟨X.heap.size, 0, none⟩) 0 0) [] F [] :=
  ⟨fun r hr => by
    simp [rowsOf] at hr
    subst hr
    exact own_empty X B hB _, by simp [rowsOf]⟩
/-- One more row besides. -/
theorem MemX.made {B : Nat} {X X' : World} {kv : Value} {us : List Value} {F : Nat → List Int} {ex : List Rr} {r : Rr} (h : MemX B X kv us F ex) (hk : Fresh X X') (hB : B ≤ X.heap.size) (hr : r.At X.heap.size X') : MemX B X' kv us F (ex ++ [r]) := by
  have h1 := Rs.made h hk hB hr
  refine h1.perm ?_
  refine (List.Perm.swap _ _ _).trans (List.Perm.cons _ ?_)
  rw [← List.append_assoc]
  exact (List.perm_append_singleton r _).symm
theorem MemX.drop {B : Nat} {X : World} {kv : Value} {us : List Value} {F : Nat → List Int} {ex : List Rr} (h : MemX B X kv us F ex) : MemX B X kv us F [] := by
  refine ⟨fun r hr => h.own r ?_, ?_⟩
  · simp only [List.append_nil] at hr
    rcases List.mem_cons.1 hr with e | e
    · exact List.mem_cons.2 (.inl e)
    · exact List.mem_cons.2 (.inr (List.mem_append.2 (.inl e)))
  · simp only [List.append_nil]
    exact h.nd.sublist (List.Sublist.cons_cons _ (List.sublist_append_left _ _))
theorem rowsOf_app (us vs : List Value) (R : List Int) : rowsOf (us ++ vs) (fun _ => R) = rowsOf us (fun _ => R) ++ vs.map (fun u => R8 u R) := by
  apply List.ext_getElem
  · simp [rowsOf]
  · intro i h1 h2
    have hi : i < us.length + vs.length := by simpa [rowsOf] using h1
    rw [rowsOf_get (by simpa using hi)]
    rcases Nat.lt_or_ge i us.length with e | e
    · rw [List.getElem_append_left (by rw [rowsOf_len]; exact e), rowsOf_get e, List.getD_eq_getElem?_getD, List.getElem?_append_left e, ← List.getD_eq_getElem?_getD]
    · rw [List.getElem_append_right (by rw [rowsOf_len]; exact e)]
      simp only [rowsOf_len, List.getElem_map]
      rw [List.getD_eq_getElem?_getD, List.getElem?_append_right e, List.getElem?_eq_getElem (by omega)]
      rfl
/-- Rows that lie besides come into the list. -/
theorem MemX.app {B : Nat} {X : World} {kv : Value} {us vs : List Value} {R : List Int} {ex : List Rr} (h : MemX B X kv us (fun _ => R) (vs.map (fun u => R8 u R) ++ ex)) (hB : B ≤ X.heap.size) (a : Addr) (m c : Nat) (hm : vs.length = m) (hc : ∀ j u, vs[j]? = some u → X.cell? (a.add j) = some u) (h1 : ∀ u ∈ vs, u.oneCell' = true) (hn : us.length + m ≤ 1000) :
    ∃ kv' X', (Builtin.append_ #[41, 41] 41 #[kv, .slice (some a) m c]).run Tryd.prog X = .ok kv' X' ∧ MemX B X' kv' (us ++ vs) (fun _ => R) ex ∧ Kept (fun k => kv.ownBlock = some k) X X' := by
  obtain ⟨i0, hi0, hz0, hz1, hz2⟩ := info_parts tyL8.info
  obtain ⟨v', w', hrun, ho, hg, _, hb⟩ := run_append_own_at (P := Tryd.prog) X B _ 41 22 i0 _ 1 24 tyL8.u hi0 hz0 hz1 hz2 rfl (by omega) kv us.length us h.head a m c vs (by rw [hm]; omega) hc h1 (by unfold maxLen; omega) (by omega) hB
  have hk : Kept (fun k => kv.ownBlock = some k) X w' := (Kept.refl _ X).grown hg (fun q _ e => e)
  refine ⟨v', w', hrun, ?_, hk⟩
  unfold MemX at h ⊢
  rw [rowsOf_app, List.append_assoc]
  refine Rs.turn h hk ?_ (fun k e => ?_)
  · show w'.ownsRow B _ 1 v' (us ++ vs).length (us ++ vs)
    rw [List.length_append, hm]
    exact ho
  · rcases hb with e2 | e2
    · left; rw [← e2]; exact e
    · right; rw [e2] at e; simp at e; omega
theorem MemX.kshape {B : Nat} {X : World} {kv : Value} {us : List Value} {F : Nat → List Int} {ex : List Rr} (h : MemX B X kv us F ex) (hn : 0 < us.length) : ∃ g c, kv = .slice (some ⟨g, 0, none⟩) us.length c ∧ B ≤ g ∧ ∀ p, p < us.length → X.cell? ⟨g, p, none⟩ = some (us.getD p nilS) := by
  have h1 : X.ownsRow B 22 1 kv us.length us := h.head
  rcases h1.2 with ⟨_, e⟩ | ⟨g', cap', cur, hv, hb, _⟩
  · omega
  · refine ⟨g', cap', hv, hb, fun p hp => ?_⟩
    subst hv
    rw [h1.cellAt p (by omega), List.getD_eq_getElem?_getD, List.getElem?_eq_getElem hp]
    rfl
theorem MemX.row {B : Nat} {X : World} {kv : Value} {us : List Value} {F : Nat → List Int} {ex : List Rr} (h : MemX B X kv us F ex) {p : Nat} (hp : p < us.length) : X.ownsRow B 33 1 (us.getD p nilS) (F p).length ((F p).map (Value.int .i8)) := by
  have h1 := h.own (R8 (us.getD p nilS) (F p)) (List.mem_cons.2 (.inr (List.mem_append.2 (.inl (by
    have := List.getElem_mem (l := rowsOf us F) (n := p) (by rw [rowsOf_len]; exact hp)
    rwa [rowsOf_get hp] at this)))))
  unfold Rr.At at h1
  simpa using h1
theorem rowsOf_set {us : List Value} {F : Nat → List Int} {p : Nat} (_hp : p < us.length) (x : List Int) : (rowsOf us F).set p (R8 (us.getD p nilS) x) = rowsOf us (fun q => if q = p then x else F q) := by
  apply List.ext_getElem
  · simp [rowsOf]
  · intro i h1 h2
    have hi : i < us.length := by rw [rowsOf_len] at h2; exact h2
    rw [rowsOf_get hi, List.getElem_set]
    split
    · rename_i e; subst e; simp
    · rename_i e
      rw [rowsOf_get hi, if_neg (fun e' => e e'.symm)]
/-- A store into one of the rows. -/
theorem MemX.store {B : Nat} {X : World} {kv : Value} {us : List Value} {F : Nat → List Int} (h : MemX B X kv us F []) {p g n c : Nat} (hp : p < us.length) (hu : us.getD p nilS = .slice (some ⟨g, 0, none⟩) n c) (i : Nat) (v : Int) : MemX B (X.setCell ⟨g, i, none⟩ (.int .i8 v)) kv us (fun q => if q = p then (F p).set i v else F q) [] := by
  unfold MemX at h ⊢
  rw [List.append_nil] at h ⊢
  have hl : p + 1 < (KR kv us :: rowsOf us F).length := by simp [rowsOf_len]; exact hp
  have e1 : (KR kv us :: rowsOf us F)[p + 1] = R8 (us.getD p nilS) (F p) := by
    rw [List.getElem_cons_succ]
    exact rowsOf_get hp _
  have h1 : MemX B X kv us F [] := by unfold MemX; rw [List.append_nil]; exact h
  have ho := h1.row hp
  have hn : n = (F p).length := by
    obtain ⟨ao, cp, e⟩ := ownsRow_shape ho
    rw [hu] at e
    injection e
  rw [hu] at ho
  subst hn
  have h2 := Rs.turnAt (r' := R8 (us.getD p nilS) ((F p).set i v)) h hl (X' := X.setCell ⟨g, i, none⟩ (.int .i8 v)) ((Kept.refl _ X).setCell (p := ⟨g, i, none⟩) (fun _ => by rw [e1]; show (us.getD p nilS).ownBlock = _; rw [hu]; simp [Value.ownBlock]) _) (by
    show (X.setCell ⟨g, i, none⟩ (.int .i8 v)).ownsRow B 33 1 (us.getD p nilS) (((F p).set i v).map (Value.int .i8)).length (((F p).set i v).map (Value.int .i8))
    rw [hu, List.map_set, List.length_set, List.length_map]
    exact own_setB (i := i) (x := Value.int .i8 v) ho) (fun k e => .inl (by rw [e1]; exact e))
  rw [List.set_cons_succ, rowsOf_set hp] at h2
  exact h2
/-- One of the rows, to be grown beside itself. -/
def Gro (B : Nat) (X : World) (kv : Value) (us : List Value) (F : Nat → List Int) (p : Nat) (gv : Value) (m : Nat) : Prop :=
  Bes B X (R8 (us.getD p nilS) (F p)) ((KR kv us :: rowsOf us F).eraseIdx (p + 1)) gv m
theorem Gro.start {B : Nat} {X : World} {kv : Value} {us : List Value} {F : Nat → List Int} (h : MemX B X kv us F []) {p : Nat} (hp : p < us.length) : Gro B X kv us F p (us.getD p nilS) (F p).length := by
  unfold MemX at h
  rw [List.append_nil] at h
  have hl : p + 1 < (KR kv us :: rowsOf us F).length := by simp [rowsOf_len]; exact hp
  have e1 : (KR kv us :: rowsOf us F)[p + 1] = R8 (us.getD p nilS) (F p) := by
    rw [List.getElem_cons_succ]
    exact rowsOf_get hp _
  have h1 := h.perm (perm_at _ (p + 1) hl)
  rw [e1] at h1
  have h2 := Bes.start h1
  rw [show (R8 (us.getD p nilS) (F p)).xs.length = (F p).length from List.length_map _] at h2
  exact h2
theorem Gro.done {B : Nat} {X : World} {kv : Value} {us : List Value} {F : Nat → List Int} {p : Nat} {gv : Value} {m : Nat} (h : Gro B X kv us F p gv m) (hp : p < us.length) : MemX B X kv us F [] := by
  have hl : p + 1 < (KR kv us :: rowsOf us F).length := by simp [rowsOf_len]; exact hp
  have e1 : (KR kv us :: rowsOf us F)[p + 1] = R8 (us.getD p nilS) (F p) := by
    rw [List.getElem_cons_succ]
    exact rowsOf_get hp _
  have h2 := perm_at _ (p + 1) hl
  rw [e1] at h2
  have h3 := h.1.perm h2.symm
  unfold MemX
  rw [List.append_nil]
  exact h3
theorem Gro.push {B : Nat} {X : World} {kv : Value} {us : List Value} {F : Nat → List Int} {p : Nat} {gv : Value} {m : Nat} (h : Gro B X kv us F p gv m) (hB : B ≤ X.heap.size) (v : Int) (hm : m ≤ 1000) :
    ∃ gv' X', (Builtin.append_ #[22, 22] 22 #[gv, .slice (some ⟨X.heap.size, 0, none⟩) 1 1]).run Tryd.prog (X.alloc (.cells #[.int .i8 v] 33)) = .ok gv' X' ∧ Gro B X' kv us F p gv' (m + 1) ∧ ∀ W : World, W.heap.size = B → Fresh W X → Fresh W X' := by
  obtain ⟨i0, hi0, hz0, hz1, hz2⟩ := info_parts ty8.info
  obtain ⟨gv', X', h1, h2, h3, h4, h5, h6, h7⟩ := Bes.push (t := 22) (ty := 22) (u := .int .i8 v) h hB ty8.u hi0 hz0 hz1 hz2 rfl rfl (by unfold maxLen; omega) (by simp only [kb]; omega)
  exact ⟨gv', X', h1, h2, fun W hW hF => ⟨h4.trans hF.os, h5.trans hF.tape, h6.trans hF.output, Nat.le_trans hF.size h7, fun k hk hn => (h3 k (by omega)).trans (hF.block k hk hn)⟩⟩
theorem Gro.shape {B : Nat} {X : World} {kv : Value} {us : List Value} {F : Nat → List Int} {p : Nat} {gv : Value} {m : Nat} (h : Gro B X kv us F p gv m) : ∃ ao c, gv = .slice ao m c := by
  obtain ⟨_, ys, hy, ho, _⟩ := h
  exact ownsRow_shape ho
theorem Rr.At.low {B C : Nat} {X : World} {r : Rr} (h : r.At C X) (hB : B ≤ C) : r.At B X := own_low h hB
theorem Rs.join {B : Nat} {X X' : World} {l rs : List Rr} (h : Rs B X l) (hk : Fresh X X') (hB : B ≤ X.heap.size) (hr : Rs X.heap.size X' rs) : Rs B X' (l ++ rs) := by
  have h1 := h.fresh hk
  refine ⟨fun r hm => ?_, List.pairwise_append.2 ⟨h1.nd, hr.nd, fun a ha b hb k e1 e2 => ?_⟩⟩
  · rcases List.mem_append.1 hm with e | e
    · exact h1.own r e
    · exact (hr.own r e).low hB
  · have q1 := ((h.own a ha).lt e1).2
    have q2 := ((hr.own b hb).lt e2).1
    omega
theorem Rs.one {B : Nat} {X : World} {r : Rr} (h : r.At B X) : Rs B X [r] := ⟨fun s hs => by simp at hs; subst hs; exact h, by simp⟩
theorem R8.at {B : Nat} {X : World} {u : Value} {x : List Int} (h : X.ownsRow B 33 1 u x.length (x.map (Value.int .i8))) : (R8 u x).At B X := by
  unfold Rr.At
  simpa using h
theorem getD_set_at {l : List Int} {i : Nat} (h : i < l.length) (v : Int) (q : Nat) : (l.set i v).getD q 0 = if q = i then v else l.getD q 0 := by
  simp only [List.getD_eq_getElem?_getD, List.getElem?_set, h, if_true]
  split
  · rename_i e; subst e; simp
  · rename_i e; rw [if_neg (fun e' => e e'.symm)]
end Go.Proofs.YtkemaofclahaiaaDoor
