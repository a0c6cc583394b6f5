/-
  Lists of rows: made, grown; each row in memory of its own.
-/
import Derived.Test.YtdponkpgokncdaaGvs
namespace Go.Proofs.Ytdponkpgokncdaa
open Go.ChangeShapes Go.WideShapes Go.ChangeAt Go.RowKit Go.Lib Go.Maps Go.Joins

/-- Rows that are values: each its own. -/
def Us (k : IntKind) (p : Nat → Prop) (W : World) (us : List Value) (L : List (List Int)) : Prop := us.length = L.length ∧ ∀ i, i < L.length → Rk k p W (us.getD i (.slice none 0 0)) (L.getD i [])
theorem Us.kept {k : IntKind} {p : Nat → Prop} {S : Nat → Prop} {W W' : World} {us : List Value} {L : List (List Int)} (h : Us k p W us L) (hk : Kept S W W') (hn : ∀ b, p b → ¬ S b) : Us k p W' us L := ⟨h.1, fun i hi => (h.2 i hi).kept hk hn⟩
theorem Us.mono {k : IntKind} {p q : Nat → Prop} {W : World} {us : List Value} {L : List (List Int)} (h : Us k p W us L) (hpq : ∀ b, p b → q b) : Us k q W us L := ⟨h.1, fun i hi => (h.2 i hi).mono hpq⟩
theorem Us.snoc {k : IntKind} {p : Nat → Prop} {W : World} {us : List Value} {L : List (List Int)} {u : Value} {z : List Int} (h : Us k p W us L) (hz : Rk k p W u z) : Us k p W (us ++ [u]) (L ++ [z]) := by
  refine ⟨by simp [h.1], fun i hi => ?_⟩
  rcases Nat.lt_or_ge i L.length with e | e
  · have := h.2 i e
    rwa [List.getD_eq_getElem?_getD, List.getD_eq_getElem?_getD, List.getElem?_append_left (by rw [h.1]; exact e), List.getElem?_append_left e, ← List.getD_eq_getElem?_getD, ← List.getD_eq_getElem?_getD]
  · have : i = L.length := by simp at hi; omega
    subst this
    rw [List.getD_eq_getElem?_getD, List.getD_eq_getElem?_getD, List.getElem?_append_right (by rw [h.1]; exact Nat.le_refl _), List.getElem?_append_right (Nat.le_refl _), h.1, Nat.sub_self]
    exact hz
theorem Us.nil (k : IntKind) (p : Nat → Prop) (W : World) : Us k p W [] [] := ⟨rfl, fun i hi => by simp at hi⟩
/-- A list of one's own whose elements are rows. -/
theorem ll_of_own {k : IntKind} {B : Nat} {e : TypeId} {w : World} {v : Value} {n : Nat} {us : List Value} {L : List (List Int)} (h : w.ownsRow B e 1 v n us) (hu : Us k (fun b => B ≤ b ∧ b < w.heap.size) w us L) (hl : L.length * 24 ≤ 140737488351232) : LL k (fun b => B ≤ b ∧ b < w.heap.size) w v L := by
  have hn : L.length = n := by have := h.1; rw [← hu.1]; simpa using this
  subst hn
  rcases h.2 with ⟨rfl, h0⟩ | ⟨g, cap, cur, rfl, hb, hg, hnc, _⟩
  · have e : L = [] := List.eq_nil_of_length_eq_zero h0
    subst e
    exact ⟨none, 0, rfl, by simp, fun h => absurd rfl h, fun _ => rfl, by simp⟩
  · refine ⟨_, cap, rfl, hl, fun _ => ⟨g, 0, rfl, ⟨hb, lt_of_heap hg⟩, lt_of_heap hg, fun i hi => ⟨us.getD i (.slice none 0 0), ?_, hu.2 i hi⟩⟩, fun e => (by cases e), hnc⟩
    rw [Nat.zero_add, h.cellAt i (by omega), List.getD_eq_getElem?_getD, List.getElem?_eq_getElem (by rw [hu.1]; exact hi)]
    rfl

/-- A type of rows, and that of their lists. -/
structure TyL (e s : TypeId) : Prop where
  u : Try.prog.underlying s = some (.slice e)
  info : (Try.prog.info? e).map (fun i => (i.zero, i.size, i.bytes)) = some (some (.slice none 0 0), 1, 24)


/-- One row behind a list of rows of one's own. -/
theorem pushL {e s : TypeId} (ht : TyL e s) (X : World) (B : Nat) (v : Value) (j : Nat) (us : List Value) (u : Value) (hu1 : u.oneCell' = true) (hown : X.ownsRow B e 1 v j us) (hj : (j + 1) * 24 ≤ 140737488355328) (hB : B ≤ X.heap.size) :
    ∃ v' X', (Builtin.append_ #[s, s] s #[v, .slice (some ⟨X.heap.size, 0, none⟩) 1 1]).run Try.prog (X.alloc (.cells #[u] e)) = .ok v' X' ∧
      X'.ownsRow B e 1 v' (j + 1) (us ++ [u]) ∧ Kept (fun b => v.ownBlock = some b) X X' ∧ (v'.ownBlock = v.ownBlock ∨ v'.ownBlock = some (X.heap.size + 1)) := by
  obtain ⟨i0, hi0, hz0, hz1, hz2⟩ := info_parts ht.info
  have hY : (X.alloc (.cells #[u] e)).ownsRow B e 1 v j us := owns_kept hown ((Kept.refl (fun _ => False) X).alloc _) (fun _ _ e => e)
  obtain ⟨v', w', hrun, ho, hg, _, hb⟩ := run_append_own_at (P := Try.prog) (X.alloc (.cells #[u] e)) B s s e i0 _ 1 24 ht.u hi0 hz0 hz1 hz2 rfl (by omega) _ j _ hY ⟨X.heap.size, 0, none⟩ 1 1 [u] rfl (fun q x hq => cell_one_new X u e q x hq) (fun x hx => by simp at hx; subst hx; exact hu1) (by unfold maxLen; omega) hj (by simp; omega)
  exact ⟨v', w', hrun, ho, ((Kept.refl (fun b => v.ownBlock = some b) X).alloc _).grown hg (fun q _ e => e), by rw [World.size_alloc] at hb; exact hb⟩
theorem Rk.oneCell {k : IntKind} {p : Nat → Prop} {W : World} {v : Value} {zs : List Int} (h : Rk k p W v zs) : v.oneCell' = true := by
  obtain ⟨ao, cap, rfl, _⟩ := h
  rfl
theorem own_ge {w : World} {base : Nat} {e : TypeId} {v : Value} {n : Nat} {xs : List Value} (h : w.ownsRow base e 1 v n xs) {k : Nat} (hk : v.ownBlock = some k) : base ≤ k := by
  rcases h.2 with ⟨rfl, _⟩ | ⟨g', cap', cur, hv, hb, _⟩
  · simp [Value.ownBlock] at hk
  · rw [hv] at hk; simp [Value.ownBlock] at hk; omega
theorem getD_mapL {X : List (List Int)} {f : List Int → List Int} {j : Nat} (hj : j < X.length) : (X.map f).getD j [] = f (X.getD j []) := by
  rw [List.getD_eq_getElem?_getD, List.getElem?_map, List.getD_eq_getElem?_getD, List.getElem?_eq_getElem hj]; rfl
theorem map_take_succ {X : List (List Int)} {f : List Int → List Int} {j : Nat} (hj : j < X.length) : (X.map f).take (j + 1) = (X.map f).take j ++ [f (X.getD j [])] := by
  rw [List.take_succ_eq_append_getElem (by simpa using hj), List.getElem_map, List.getD_eq_getElem?_getD, List.getElem?_eq_getElem hj]; rfl
theorem getD_app1 {us : List Value} {u : Value} {i : Nat} (h : i < us.length) : (us ++ [u]).getD i (.slice none 0 0) = us.getD i (.slice none 0 0) := by
  rw [List.getD_eq_getElem?_getD, List.getD_eq_getElem?_getD, List.getElem?_append_left h]
theorem getD_app2 {us : List Value} {u : Value} : (us ++ [u]).getD us.length (.slice none 0 0) = u := by
  rw [List.getD_eq_getElem?_getD, List.getElem?_append_right (Nat.le_refl _), Nat.sub_self]; rfl
theorem getD_lapp1 {L : List (List Int)} {x : List Int} {i : Nat} (h : i < L.length) : (L ++ [x]).getD i [] = L.getD i [] := by
  rw [List.getD_eq_getElem?_getD, List.getD_eq_getElem?_getD, List.getElem?_append_left h]
theorem getD_lapp2 {L : List (List Int)} {x : List Int} : (L ++ [x]).getD L.length [] = x := by
  rw [List.getD_eq_getElem?_getD, List.getElem?_append_right (Nat.le_refl _), Nat.sub_self]; rfl
/-- A row in a block of its own. -/
def OwnK1 (k : IntKind) (e : TypeId) (B : Nat) (W : World) (u : Value) (x : List Int) (gB : Nat) : Prop := ∃ g c, u = .slice (some ⟨g, 0, none⟩) x.length c ∧ W.ownsRow B e 1 u x.length (x.map (Value.int k)) ∧ g ≠ gB
/-- Rows, each in a block of its own. -/
def OwnK (k : IntKind) (e : TypeId) (B : Nat) (W : World) (us : List Value) (L : List (List Int)) (gB : Nat) : Prop :=
  us.length = L.length ∧ (∀ i, i < L.length → OwnK1 k e B W (us.getD i (.slice none 0 0)) (L.getD i []) gB) ∧ ∀ i j, i < j → j < L.length → (us.getD i (.slice none 0 0)).ownBlock ≠ (us.getD j (.slice none 0 0)).ownBlock
theorem OwnK1.kept {k : IntKind} {e : TypeId} {B : Nat} {W W' : World} {u : Value} {x : List Int} {gB : Nat} {S : Nat → Prop} (h : OwnK1 k e B W u x gB) (hk : Kept S W W') (hn : ∀ g, u.ownBlock = some g → ¬ S g) : OwnK1 k e B W' u x gB := by
  obtain ⟨g, c, h1, h2, h3⟩ := h
  exact ⟨g, c, h1, owns_kept h2 hk hn, h3⟩
theorem OwnK.fresh {k : IntKind} {e : TypeId} {B : Nat} {W W' : World} {us : List Value} {L : List (List Int)} {gB : Nat} (h : OwnK k e B W us L gB) (hk : Fresh W W') : OwnK k e B W' us L gB := ⟨h.1, fun i hi => (h.2.1 i hi).kept hk (fun _ _ e => e), h.2.2⟩
theorem OwnK.setB {k : IntKind} {e : TypeId} {B : Nat} {W : World} {us : List Value} {L : List (List Int)} {gB : Nat} (h : OwnK k e B W us L gB) (i : Nat) (v : Value) : OwnK k e B (W.setCell ⟨gB, i, none⟩ v) us L gB :=
  ⟨h.1, fun j hj => by
    obtain ⟨g, c, h1, h2, h3⟩ := h.2.1 j hj
    exact ⟨g, c, h1, ownsRow_setCell_other h2 (by rw [h1]; simp [Value.ownBlock]; omega) _, h3⟩, h.2.2⟩
theorem OwnK.snoc {k : IntKind} {e : TypeId} {B N : Nat} {W W0 : World} {us : List Value} {L : List (List Int)} {gB : Nat} {u : Value} {x : List Int} (h0 : OwnK k e B W0 us L gB) (hk : Fresh W0 W) (hu : OwnK1 k e B W u x gB) (hN : W0.heap.size = N) (hg : ∀ g, u.ownBlock = some g → N ≤ g) : OwnK k e B W (us ++ [u]) (L ++ [x]) gB := by
  have h := h0.fresh hk
  refine ⟨by simp [h.1], fun i hi => ?_, fun i j hij hj => ?_⟩
  · rcases Nat.lt_or_ge i L.length with e | e
    · rw [getD_app1 (by rw [h.1]; exact e), getD_lapp1 e]; exact h.2.1 i e
    · have : i = L.length := by simp at hi; omega
      subst this
      rw [getD_lapp2, ← h.1, getD_app2]; exact hu
  · rcases Nat.lt_or_ge j L.length with e | e
    · rw [getD_app1 (by rw [h.1]; omega), getD_app1 (by rw [h.1]; omega)]; exact h.2.2 i j hij e
    · have : j = L.length := by simp at hj; omega
      subst this
      rw [getD_app1 (by rw [h.1]; omega), ← h.1, getD_app2]
      obtain ⟨g, c, h1, h2, _⟩ := h0.2.1 i hij
      intro e2
      have q1 := owns_lt h2 (g := g) (by rw [h1]; simp [Value.ownBlock])
      have q2 := hg g (by rw [← e2, h1]; simp [Value.ownBlock])
      omega
theorem OwnK.nil (k : IntKind) (e : TypeId) (B : Nat) (W : World) (gB : Nat) : OwnK k e B W [] [] gB := ⟨rfl, fun i hi => by simp at hi, fun i j _ hj => by simp at hj⟩
/-- A list of rows, all of it in memory of its own, each row apart. -/
def OLK (k : IntKind) (e s : TypeId) (B : Nat) (W : World) (v : Value) (L : List (List Int)) : Prop := (v = .slice none 0 0 ∧ L = []) ∨ ∃ g us, v = .slice (some ⟨g, 0, none⟩) L.length L.length ∧ W.ownsRow B s 1 v L.length us ∧ OwnK k e B W us L g
theorem OLK.fresh {k : IntKind} {e s : TypeId} {B : Nat} {W W' : World} {v : Value} {L : List (List Int)} (h : OLK k e s B W v L) (hk : Fresh W W') : OLK k e s B W' v L := by
  rcases h with h | ⟨g, us, h1, h2, h3⟩
  · exact .inl h
  · exact .inr ⟨g, us, h1, owns_kept h2 hk (fun _ _ e => e), h3.fresh hk⟩
theorem OLK.ll {k : IntKind} {e s : TypeId} {B : Nat} {W : World} {v : Value} {L : List (List Int)} (h : OLK k e s B W v L) (hl : L.length * 24 ≤ 140737488351232) (hz : ∀ x ∈ L, x.length * kb k ≤ 140737488351232 ∧ ∀ z ∈ x, Fit k z) : LL k (fun b => B ≤ b ∧ b < W.heap.size) W v L := by
  rcases h with ⟨rfl, rfl⟩ | ⟨g, us, h1, h2, h3⟩
  · exact ⟨none, 0, rfl, by simp, fun h => absurd rfl h, fun _ => rfl, by simp⟩
  · refine ll_of_own h2 ⟨h3.1, fun i hi => ?_⟩ hl
    obtain ⟨g', c', _, h5, _⟩ := h3.2.1 i hi
    have hm : L.getD i [] ∈ L := by rw [List.getD_eq_getElem?_getD, List.getElem?_eq_getElem hi]; exact List.getElem_mem hi
    exact rk_of_own h5 (hz _ hm).1 (hz _ hm).2
theorem made_nils (n : Nat) : madeCells (Value.slice none 0 0).cells (n * 1) = (List.replicate n (Value.slice none 0 0)).toArray := by
  rw [Nat.mul_one]
  have h : ∀ x : Nat, (Value.slice none 0 0).cells[x % (Value.slice none 0 0).cells.size]! = Value.slice none 0 0 := fun x => by
    have : x % (Value.slice none 0 0).cells.size = 0 := Nat.mod_one x
    rw [this]; rfl
  unfold madeCells
  simp only [h]
  apply Array.ext'
  simp [List.map_const']
theorem run_mkL {e s : TypeId} (ht : TyL e s) (n : Nat) (hn : n * 24 ≤ 140737488351232) (W : World) :
    (Instr.makeSlice s (.int .i64 (n : Int)) (.int .i64 (n : Int))).run Try.prog W = .ok (.slice (some ⟨W.heap.size, 0, none⟩) n n) (W.alloc (.cells (List.replicate n (Value.slice none 0 0)).toArray e)) := by
  obtain ⟨i0, hi, hz0, hz1, hz2⟩ := info_parts ht.info
  have h := run_make (P := Try.prog) W s e i0 _ ht.u hi hz0 .i64 .i64 (n : Int) (n : Int) (by omega) (by omega) (by rw [hz2]; omega) (by omega)
  rw [hz1] at h
  simp only [Int.toNat_natCast] at h
  rw [made_nils] at h
  exact h
theorem own_madeL (e : TypeId) (W : World) (B : Nat) (hB : B ≤ W.heap.size) (n : Nat) (hn : n ≤ 140737488351232) :
    (W.alloc (.cells (List.replicate n (Value.slice none 0 0)).toArray e)).ownsRow B e 1 (.slice (some ⟨W.heap.size, 0, none⟩) n n) n (List.replicate n (Value.slice none 0 0)) :=
  ⟨by simp, .inr ⟨W.heap.size, n, _, rfl, hB, heap_alloc_new W _, Nat.le_refl _, by unfold maxLen; omega, by simp, by simp⟩⟩
/-- A list of rows, out of its reading. -/
theorem ll_ofK {k : IntKind} {e s t : TypeId} (ht : Ty k e s) (hL : TyL s t) (hcs1 : Try.prog.cellsOf s = 1) {H : Type} {enc : TypeId × Value → H} {W : World} {fuel : Nat} {v : Value} {x : DataW H × List MemPlace} (h : DataW.trod enc Try.prog W 0 (fun _ => true) true fuel t [v] = some x)
    (hsz : ∀ es sp, x.1 = .slice es sp → es.length * 24 ≤ 140737488351232 ∧ ∀ e' sp', DataW.slice e' sp' ∈ es → e'.length * kb k ≤ 140737488351232) : ∃ L : List (List Int), LL k (fun b => b < W.heap.size) W v L := by
  rcases Go.Deep.open_slice hL.u h with ⟨hcs, hx⟩ | ⟨a, len, cap, m, n, D, Pl, hcs, _, hl, hmx, hm, hx, hel⟩
  · exact ⟨[], none, 0, by simpa using hcs, by simp, fun h0 => absurd rfl h0, fun _ => rfl, Nat.zero_le _⟩
  · simp only [if_true] at hm
    subst hm
    rw [hcs1] at hel
    obtain ⟨hs1, hs2⟩ := hsz _ _ (by rw [hx])
    have build : ∀ q, q ≤ len → ∃ L : List (List Int), L.length = q ∧ ∀ i, i < q → ∃ u, W.cells? 0 (a.add (i * 1)) 1 = some [u] ∧ Rk k (fun b => b < W.heap.size) W u (L.getD i []) := by
      intro q
      induction q with
      | zero => intro _; exact ⟨[], rfl, fun i hi => by omega⟩
      | succ q ih =>
        intro hq
        obtain ⟨L, hL, hLc⟩ := ih (by omega)
        obtain ⟨cs', hc, ht2⟩ := hel q (by omega)
        have hlen : cs'.length = 1 := (World.cells?_some hc).2.1
        obtain ⟨u, rfl⟩ := List.length_eq_one_iff.1 hlen
        obtain ⟨zs, hz, _⟩ := row_of ht ht2 (fun es sp e => hs2 es sp (by rw [List.mem_map]; exact ⟨q, by simp; omega, e⟩))
        refine ⟨L ++ [zs], by simp [hL], fun i hi => ?_⟩
        rcases Nat.lt_or_ge i q with e | e
        · obtain ⟨u', h1, h2⟩ := hLc i e
          refine ⟨u', h1, ?_⟩
          rwa [List.getD_eq_getElem?_getD, List.getElem?_append_left (by omega), ← List.getD_eq_getElem?_getD]
        · obtain rfl : i = q := by omega
          refine ⟨u, hc, ?_⟩
          rw [List.getD_eq_getElem?_getD, List.getElem?_append_right (by omega), hL, Nat.sub_self]
          exact hz
    obtain ⟨L, hL, hLc⟩ := build len (Nat.le_refl _)
    have hv : v = .slice (some a) len m := by simpa using hcs
    refine ⟨L, some a, m, by rw [hL]; exact hv, by rw [hL]; simpa using hs1, fun h0 => ?_, fun e => (by cases e), by omega⟩
    have hpos : 0 < len := by rw [← hL]; exact List.length_pos_iff.2 h0
    obtain ⟨b, off, spot⟩ := a
    obtain ⟨u0, hc0, _⟩ := hLc 0 hpos
    have h0' := (World.cells?_some hc0).2.2 0 (by omega)
    have hspot : spot = none := by simpa [Addr.add] using World.cell?_spot h0'
    subst hspot
    have hb0 := World.block_lt_of_cell? W _ h0'
    refine ⟨b, off, rfl, by simpa [Addr.add] using hb0, by simpa [Addr.add] using hb0, fun i hi => ?_⟩
    obtain ⟨u, hc, hr⟩ := hLc i (by omega)
    have hc := (World.cells?_some hc).2.2 0 (by omega)
    simp only [Addr.add_lit] at hc
    exact ⟨u, by simpa using hc, hr⟩
end Go.Proofs.Ytdponkpgokncdaa
