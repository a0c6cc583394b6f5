/-
  Rows of numbers of a kind, each in memory of its own, the list that holds them, and rows besides: one more behind them, a store into one; two rows grown side by side.
-/
import Derived.Test.YtdponkpgokncdaaGmm
namespace Go.Proofs.Ytdponkpgokncdaa
open Go.RowKit Go.Lib Go.Maps

theorem perm_at2 {α : Type} : ∀ (l : List α) (i : Nat) (h : i < l.length), l.Perm (l[i] :: l.eraseIdx i)
  | _ :: _, 0, _ => List.Perm.refl _
  | a :: l, i + 1, h => ((perm_at2 l i (by simpa using h)).cons a).trans (List.Perm.swap _ _ _)
theorem Rs.turnAt2 {B i : Nat} {X X' : World} {r' : Rr} {l : List Rr} (h : Rs B X l) (hi : i < l.length) (hk : Kept (fun k => (l[i]).v.ownBlock = some k) X X') (hr : r'.At B X') (hb : ∀ k, r'.v.ownBlock = some k → (l[i]).v.ownBlock = some k ∨ X.heap.size ≤ k) : Rs B X' (l.set i r') := by
  have h1 := (h.perm (perm_at2 l i hi)).turn hk hr hb
  have h2 := perm_at2 (l.set i r') i (by simpa using hi)
  rw [List.getElem_set_self, List.eraseIdx_set_eq] at h2
  exact h1.perm h2.symm
abbrev nilV : Value := .slice none 0 0
/-- A row of numbers of a kind; a list of rows. -/
abbrev RK (k : IntKind) (e : TypeId) (u : Value) (x : List Int) : Rr := ⟨e, u, x.map (Value.int k)⟩
abbrev LK (s : TypeId) (kv : Value) (us : List Value) : Rr := ⟨s, kv, us⟩
def rws (k : IntKind) (e : TypeId) (us : List Value) (F : Nat → List Int) : List Rr := (List.range us.length).map (fun p => RK k e (us.getD p nilV) (F p))
theorem rws_len (k : IntKind) (e : TypeId) (us : List Value) (F : Nat → List Int) : (rws k e us F).length = us.length := by simp [rws]
theorem rws_get {k : IntKind} {e : TypeId} {us : List Value} {F : Nat → List Int} {p : Nat} (_h : p < us.length) (h' : p < (rws k e us F).length) : (rws k e us F)[p] = RK k e (us.getD p nilV) (F p) := by simp [rws]
theorem rws_snoc (k : IntKind) (e : TypeId) (us : List Value) (u : Value) (R : List Int) : rws k e (us ++ [u]) (fun _ => R) = rws k e us (fun _ => R) ++ [RK k e u R] := by
  apply List.ext_getElem
  · simp [rws]
  · intro i h1 h2
    have hi : i < us.length + 1 := by simpa [rws] using h1
    rw [rws_get (by simpa using hi)]
    rcases Nat.lt_or_ge i us.length with e' | e'
    · rw [List.getElem_append_left (by rw [rws_len]; exact e'), rws_get e', List.getD_eq_getElem?_getD, List.getElem?_append_left e', ← List.getD_eq_getElem?_getD]
    · obtain rfl : i = us.length := by omega
      rw [List.getElem_append_right (by rw [rws_len]; exact e')]
      rw [List.getD_eq_getElem?_getD, List.getElem?_append_right e']
      simp [rws_len]
theorem rws_set {k : IntKind} {e : TypeId} {us : List Value} {F : Nat → List Int} {p : Nat} (_hp : p < us.length) (x : List Int) : (rws k e us F).set p (RK k e (us.getD p nilV) x) = rws k e us (fun q => if q = p then x else F q) := by
  apply List.ext_getElem
  · simp [rws]
  · intro i h1 h2
    have hi : i < us.length := by rw [rws_len] at h2; exact h2
    rw [rws_get hi, List.getElem_set]
    split
    · rename_i e; subst e; simp
    · rename_i e'
      rw [rws_get hi, if_neg (fun e2 => e' e2.symm)]
/-- A list of rows, each in memory of its own, and more rows besides. -/
def MemK (k : IntKind) (e s : TypeId) (B : Nat) (X : World) (kv : Value) (us : List Value) (F : Nat → List Int) (ex : List Rr) : Prop := Rs B X ((LK s kv us :: rws k e us F) ++ ex)
theorem MemK.fresh {k : IntKind} {e s : TypeId} {B : Nat} {X X' : World} {kv : Value} {us : List Value} {F : Nat → List Int} {ex : List Rr} (h : MemK k e s B X kv us F ex) (hk : Fresh X X') : MemK k e s B X' kv us F ex := Rs.fresh h hk
theorem MemK.swap {k k' : IntKind} {e s e' s' : TypeId} {B : Nat} {X : World} {kv kv' : Value} {us us' : List Value} {F F' : Nat → List Int} (h : MemK k e s B X kv us F (LK s' kv' us' :: rws k' e' us' F')) : MemK k' e' s' B X kv' us' F' (LK s kv us :: rws k e us F) := Rs.perm h List.perm_append_comm
/-- A row that lies besides comes into the list. -/
theorem MemK.app {k : IntKind} {e s t : TypeId} (ht : TyL s t) {B : Nat} {X : World} {kv : Value} {us : List Value} {R : List Int} {u : Value} {ex : List Rr} (h : MemK k e s B X kv us (fun _ => R) (RK k e u R :: ex)) (hB : B ≤ X.heap.size) (hu1 : u.oneCell' = true) (hn : us.length ≤ 1000) :
    ∃ kv' X', (Builtin.append_ #[t, t] t #[kv, .slice (some ⟨X.heap.size, 0, none⟩) 1 1]).run Try.prog (X.alloc (.cells #[u] s)) = .ok kv' X' ∧ MemK k e s B X' kv' (us ++ [u]) (fun _ => R) ex ∧ ∀ W : World, W.heap.size = B → Fresh W X → Fresh W X' := by
  have hh : X.ownsRow B s 1 kv us.length us := Rs.head h
  obtain ⟨v', X', h1, h2, h3, h4⟩ := pushL ht X B kv us.length us u hu1 hh (by omega) hB
  refine ⟨v', X', h1, ?_, fun W hW hF => hF.trans h3 (fun i hi e' => by have := own_ge hh e'; omega)⟩
  unfold MemK at h ⊢
  have h5 := Rs.turn (r' := LK s v' (us ++ [u])) h h3 (by
    show X'.ownsRow B s 1 v' (us ++ [u]).length (us ++ [u])
    rw [List.length_append]
    exact h2) (fun q hq => by
      rcases h4 with e2 | e2
      · left; rw [← e2]; exact hq
      · right
        have hq' : v'.ownBlock = some q := hq
        rw [e2] at hq'
        simp at hq'
        omega)
  rw [rws_snoc]
  have e5 : (rws k e us (fun _ => R) ++ [RK k e u R]) ++ ex = rws k e us (fun _ => R) ++ (RK k e u R :: ex) := by simp
  refine h5.perm (List.Perm.cons _ ?_)
  show (rws k e us (fun _ => R) ++ (RK k e u R :: ex)).Perm ((rws k e us (fun _ => R) ++ [RK k e u R]) ++ ex)
  rw [e5]
theorem MemK.cell {k : IntKind} {e s : TypeId} {B : Nat} {X : World} {kv : Value} {us : List Value} {F : Nat → List Int} {ex : List Rr} (h : MemK k e s B X kv us F ex) {p : Nat} (hp : p < us.length) : ∃ g c, kv = .slice (some ⟨g, 0, none⟩) us.length c ∧ X.cell? ⟨g, p, none⟩ = some (us.getD p nilV) := by
  have h1 : X.ownsRow B s 1 kv us.length us := Rs.head h
  rcases h1.2 with ⟨_, e'⟩ | ⟨g', cap', cur, hv, hb, _⟩
  · omega
  · refine ⟨g', cap', hv, ?_⟩
    subst hv
    rw [h1.cellAt p (by omega), List.getD_eq_getElem?_getD, List.getElem?_eq_getElem hp]
    rfl
theorem rws_at {k : IntKind} {e s : TypeId} {us : List Value} {F : Nat → List Int} {ex : List Rr} {p : Nat} (hp : p < us.length) (kv : Value) : ∃ hl : p + 1 < ((LK s kv us :: rws k e us F) ++ ex).length, ((LK s kv us :: rws k e us F) ++ ex)[p + 1] = RK k e (us.getD p nilV) (F p) := by
  refine ⟨by simp [rws_len]; omega, ?_⟩
  rw [List.getElem_append_left (by simp [rws_len]; omega), List.getElem_cons_succ]
  exact rws_get hp _
theorem MemK.row {k : IntKind} {e s : TypeId} {B : Nat} {X : World} {kv : Value} {us : List Value} {F : Nat → List Int} {ex : List Rr} (h : MemK k e s B X kv us F ex) {p : Nat} (hp : p < us.length) : X.ownsRow B e 1 (us.getD p nilV) (F p).length ((F p).map (Value.int k)) := by
  obtain ⟨hl, e1⟩ := rws_at (k := k) (e := e) (s := s) (F := F) (ex := ex) hp kv
  have h1 := h.own _ (List.getElem_mem hl)
  rw [e1] at h1
  unfold Rr.At at h1
  simpa using h1
/-- A store into one of the rows. -/
theorem MemK.store {k : IntKind} {e s : TypeId} {B : Nat} {X : World} {kv : Value} {us : List Value} {F : Nat → List Int} {ex : List Rr} (h : MemK k e s B X kv us F ex) {p g n c : Nat} (hp : p < us.length) (hu : us.getD p nilV = .slice (some ⟨g, 0, none⟩) n c) (i : Nat) (v : Int) : MemK k e s B (X.setCell ⟨g, i, none⟩ (.int k v)) kv us (fun q => if q = p then (F p).set i v else F q) ex := by
  have ho := h.row hp
  unfold MemK at h ⊢
  obtain ⟨hl, e1⟩ := rws_at (k := k) (e := e) (s := s) (F := F) (ex := ex) hp kv
  have hn : n = (F p).length := by
    obtain ⟨ao, cp, e'⟩ := ownsRow_shape ho
    rw [hu] at e'
    injection e'
  rw [hu] at ho
  subst hn
  have h2 := Rs.turnAt2 (r' := RK k e (us.getD p nilV) ((F p).set i v)) h hl (X' := X.setCell ⟨g, i, none⟩ (.int k v)) ((Kept.refl _ X).setCell (p := ⟨g, i, none⟩) (fun _ => by rw [e1]; show (us.getD p nilV).ownBlock = _; rw [hu]; simp [Value.ownBlock]) _) (by
    show (X.setCell ⟨g, i, none⟩ (.int k v)).ownsRow B e 1 (us.getD p nilV) (((F p).set i v).map (Value.int k)).length (((F p).set i v).map (Value.int k))
    rw [hu, List.map_set, List.length_set, List.length_map]
    exact own_setB (i := i) (x := Value.int k v) ho) (fun q e' => .inl (by rw [e1]; exact e'))
  rw [List.set_append_left _ _ (by simp [rws_len]; omega), List.set_cons_succ, rws_set hp] at h2
  exact h2

/-- One more behind a grown row; nothing else is touched. -/
theorem Bes.pushK {B : Nat} {X : World} {r : Rr} {l : List Rr} {gv u z : Value} {m bytes : Nat} {t ty : TypeId} {i0 : TypeInfo} (h : Bes B X r l gv m) (hB : B ≤ X.heap.size) (ht : Try.prog.underlying t = some (.slice r.T)) (hi : Try.prog.info? r.T = some i0) (hz0 : i0.zero = some z) (hz1 : i0.size = 1) (hz2 : i0.bytes = bytes) (hzc : z.cells.size = 1)
    (hu : u.oneCell' = true) (hm1 : m + 1 ≤ maxLen) (hm2 : (m + 1) * bytes ≤ 140737488355328) :
    ∃ gv' X', (Builtin.append_ #[t, t] ty #[gv, .slice (some ⟨X.heap.size, 0, none⟩) 1 1]).run Try.prog (X.alloc (.cells #[u] r.T)) = .ok gv' X' ∧ Bes B X' r l gv' (m + 1) ∧ Kept (fun k => gv.ownBlock = some k) X X' ∧ ∀ k, gv'.ownBlock = some k → gv.ownBlock = some k ∨ X.heap.size ≤ k := by
  obtain ⟨hR, ys, hyl, hown, ⟨hle, hpre⟩, hcase⟩ := h
  have hpre' : r.xs.length ≤ m + 1 ∧ (ys ++ [u]).take r.xs.length = r.xs := ⟨by omega, by rw [List.take_append_of_le_length (by omega)]; exact hpre⟩
  have hFY : Fresh X (X.alloc (.cells #[u] r.T)) := (Kept.refl _ X).alloc _
  have hYown : (X.alloc (.cells #[u] r.T)).ownsRow B r.T 1 gv m ys := owns_kept hown hFY (fun _ _ e => e)
  have hnew := fun j w hj => cell_one_new X u r.T j w hj
  have hu1 : ∀ w ∈ [u], w.oneCell' = true := fun w hw => by simp at hw; subst hw; exact hu
  rcases hcase with ⟨g, cap, hrv, hgv⟩ | hap
  · subst hgv
    by_cases hroom : m + 1 ≤ cap
    · obtain ⟨X', hrun, hown', hgrow⟩ := run_append_fits (P := Try.prog) (X.alloc (.cells #[u] r.T)) B t ty r.T i0 1 ht hi hz1 g m cap ys hYown ⟨X.heap.size, 0, none⟩ 1 1 [u] rfl hnew hu1 hroom
      have hk : Kept (fun k => k = g) X X' := ((Kept.refl (fun k => k = g) X).alloc _).grown hgrow (fun k _ e => by simp at e; exact e.symm)
      have hgB : B ≤ g := by
        rcases hown.2 with ⟨e, _⟩ | ⟨g', cap', cur, hv, hb, _⟩
        · cases e
        · cases hv; exact hb
      refine ⟨_, X', hrun, ⟨?_, ys ++ [u], by simp [hyl], hown', hpre', .inl ⟨g, cap, hrv, rfl⟩⟩, hk.mono (fun k _ e => by rw [e]; simp [Value.ownBlock]), fun k hk2 => .inl hk2⟩
      · refine hR.turn (r' := r) (hk.mono (fun k _ e => by rw [hrv, e]; simp [Value.ownBlock])) ?_ (fun k e => .inl e)
        have h2 := own_begins hown' (n := r.xs.length) (by omega)
        rw [List.take_append_of_le_length (by omega), hpre] at h2
        unfold Rr.At
        rw [hrv]
        exact h2
    · have hcm : m = cap := by
        rcases hown.2 with ⟨e, _⟩ | ⟨g', cap', cur, hv, _, _, hnc, _⟩
        · cases e
        · cases hv; omega
      obtain ⟨gv', X', hrun, hown', hgrow⟩ := run_append_arg_grows (P := Try.prog) (X.alloc (.cells #[u] r.T)) t ty r.T i0 z 1 bytes ht hi hz0 hz1 hz2 hzc (by omega) ⟨g, 0, none⟩ m cap ys (by omega) (fun j w hj => by
        have hj' : j < m := by have := (List.getElem?_eq_some_iff.1 hj).1; omega
        rw [Addr.add_lit, Nat.zero_add, hYown.cellAt j (by omega)]
        exact hj) ⟨X.heap.size, 0, none⟩ 1 1 [u] rfl hnew (by omega) hm1 hm2
      have hk : Fresh X X' := hFY.grown hgrow (fun k _ e => by cases e)
      have hgt : ∀ k, gv'.ownBlock = some k → X.heap.size ≤ k := fun k e => by
        have h3 := (Rr.At.lt (r := ⟨r.T, gv', ys ++ [u]⟩) (B := (X.alloc (.cells #[u] r.T)).heap.size) (by unfold Rr.At; rw [List.length_append, hyl]; exact hown') e).1
        simp at h3
        omega
      refine ⟨gv', X', hrun, ⟨hR.fresh hk, ys ++ [u], by simp [hyl], ?_, hpre', .inr (fun k e s hs e2 => ?_)⟩, hk.mono (fun _ _ e => e.elim), fun k e => .inr (hgt k e)⟩
      · rcases hown' with ⟨h1, h2 | ⟨g', cap', cur, hv, hb, hh⟩⟩
        · exact ⟨h1, .inl h2⟩
        · exact ⟨h1, .inr ⟨g', cap', cur, hv, by simp at hb; omega, hh⟩⟩
      · have h4 := ((hR.own s hs).lt e2).2
        have := hgt k e
        omega
  · obtain ⟨gv', X', hrun, hown', hgrow, _, hbl⟩ := run_append_own_at (P := Try.prog) (X.alloc (.cells #[u] r.T)) B t ty r.T i0 z 1 bytes ht hi hz0 hz1 hz2 hzc (by omega) gv m ys hYown ⟨X.heap.size, 0, none⟩ 1 1 [u] rfl hnew hu1 hm1 hm2 (by simp; omega)
    have hk : Kept (fun k => gv.ownBlock = some k) X X' := ((Kept.refl (fun k => gv.ownBlock = some k) X).alloc _).grown hgrow (fun k _ e => e)
    refine ⟨gv', X', hrun, ⟨hR.kept hk (fun s hs k e e2 => hap k e2 s hs e), ys ++ [u], by simp [hyl], hown', hpre', .inr (fun k e s hs e2 => ?_)⟩, hk, fun k e => ?_⟩
    · rcases hbl with e3 | e3
      · rw [e3] at e
        exact hap k e s hs e2
      · rw [e3] at e
        have h4 := ((hR.own s hs).lt e2).2
        simp at e
        omega
    · rcases hbl with e3 | e3
      · rw [e3] at e; exact .inl e
      · rw [e3] at e; simp at e; right; omega
/-- Two rows grown side by side. -/
def G2 (B : Nat) (X : World) (r1 r2 : Rr) (l : List Rr) (gv : Value) (m : Nat) (hv : Value) (q : Nat) : Prop :=
  Bes B X r1 (r2 :: l) gv m ∧ Bes B X r2 (r1 :: l) hv q ∧ ∀ k, gv.ownBlock = some k → hv.ownBlock ≠ some k
theorem G2.start {B : Nat} {X : World} {r1 r2 : Rr} {l : List Rr} (h : Rs B X (r1 :: r2 :: l)) : G2 B X r1 r2 l r1.v r1.xs.length r2.v r2.xs.length :=
  ⟨Bes.start h, Bes.start (h.perm (List.Perm.swap _ _ _)), fun k hk => h.apart r2 List.mem_cons_self k hk⟩
theorem G2.swap {B : Nat} {X : World} {r1 r2 : Rr} {l : List Rr} {gv hv : Value} {m q : Nat} (h : G2 B X r1 r2 l gv m hv q) : G2 B X r2 r1 l hv q gv m := ⟨h.2.1, h.1, fun k hk e => h.2.2 k e hk⟩
theorem Bes.ownB {B : Nat} {X : World} {r : Rr} {l : List Rr} {gv : Value} {m : Nat} (h : Bes B X r l gv m) {k : Nat} (hk : gv.ownBlock = some k) : B ≤ k ∧ k < X.heap.size := by
  obtain ⟨_, ys, hy, ho, _⟩ := h
  exact Rr.At.lt (r := ⟨r.T, gv, ys⟩) (by unfold Rr.At; rw [hy]; exact ho) hk
theorem Bes.shape {B : Nat} {X : World} {r : Rr} {l : List Rr} {gv : Value} {m : Nat} (h : Bes B X r l gv m) : ∃ ao c, gv = .slice ao m c := by
  obtain ⟨_, ys, hy, ho, _⟩ := h
  exact ownsRow_shape ho
theorem G2.push {k : IntKind} {s : TypeId} {B : Nat} {X : World} {r1 r2 : Rr} {l : List Rr} {gv hv : Value} {m q : Nat} (ht : Ty k r1.T s) (h : G2 B X r1 r2 l gv m hv q) (hB : B ≤ X.heap.size) (v : Int) (hm1 : m + 1 ≤ 140737488355328) (hm2 : (m + 1) * kb k ≤ 140737488355328) :
    ∃ gv' X', (Builtin.append_ #[s, s] s #[gv, .slice (some ⟨X.heap.size, 0, none⟩) 1 1]).run Try.prog (X.alloc (.cells #[.int k v] r1.T)) = .ok gv' X' ∧ G2 B X' r1 r2 l gv' (m + 1) hv q ∧ B ≤ X'.heap.size ∧ ∀ W : World, W.heap.size = B → Fresh W X → Fresh W X' := by
  obtain ⟨i0, hi0, hz0, hz1, hz2⟩ := info_parts ht.info
  obtain ⟨gv', X', h1, h2, h3, h4⟩ := Bes.pushK (t := s) (ty := s) (u := .int k v) h.1 hB ht.u hi0 hz0 hz1 hz2 rfl rfl (by unfold maxLen; omega) hm2
  refine ⟨gv', X', h1, ⟨h2, ?_, fun j hj e => ?_⟩, Nat.le_trans hB h3.size, fun W hW hF => hF.trans h3 (fun i hi e => by have := (h.1.ownB e).1; omega)⟩
  · obtain ⟨_, ys, hy, ho, hp, hc⟩ := h.2.1
    exact ⟨h2.1.perm (List.Perm.swap _ _ _), ys, hy, owns_kept ho h3 (fun j hj e => h.2.2 j e hj), hp, hc⟩
  · rcases h4 j hj with e2 | e2
    · exact h.2.2 j e2 e
    · have := (h.2.1.ownB e).2; omega
theorem two_front {α : Type} (l1 l2 : List α) (i j : Nat) (hi : i < l1.length) (hj : j < l2.length) : (l1 ++ l2).Perm (l1[i] :: l2[j] :: (l1.eraseIdx i ++ l2.eraseIdx j)) :=
  ((perm_at2 l1 i hi).append (perm_at2 l2 j hj)).trans (List.Perm.cons _ List.perm_middle)
/-- The rows of one place in two lists are brought ahead, to be grown; and back. -/
theorem MemK.front {k k' : IntKind} {e s e' s' : TypeId} {B : Nat} {kv kv' : Value} {us us' : List Value} {F F' : Nat → List Int} {p : Nat} (hp : p < us.length) (hp' : p < us'.length) :
    ∃ l : List Rr, ∀ X : World, MemK k e s B X kv us F (LK s' kv' us' :: rws k' e' us' F') ↔ Rs B X (RK k e (us.getD p nilV) (F p) :: RK k' e' (us'.getD p nilV) (F' p) :: l) := by
  have h1 : p + 1 < (LK s kv us :: rws k e us F).length := by simp [rws_len]; omega
  have h2 : p + 1 < (LK s' kv' us' :: rws k' e' us' F').length := by simp [rws_len]; omega
  have hP := two_front (LK s kv us :: rws k e us F) (LK s' kv' us' :: rws k' e' us' F') (p + 1) (p + 1) h1 h2
  rw [List.getElem_cons_succ, List.getElem_cons_succ, rws_get hp, rws_get hp'] at hP
  exact ⟨_, fun X => ⟨fun h => Rs.perm h hP, fun h => Rs.perm h hP.symm⟩⟩
end Go.Proofs.Ytdponkpgokncdaa
