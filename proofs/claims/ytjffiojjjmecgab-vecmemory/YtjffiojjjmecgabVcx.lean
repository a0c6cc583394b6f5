/-
  Rows of one's own, stored to and grown, each apart from the others: what VecMemory wants.
-/
import Derived.Test.YtjffiojjjmecgabVcl
namespace Go.Proofs.Ytjffiojjjmecgab
open Go.RowKit Go.Lib Go.Maps

/-- One element behind a row of one's own, whatever it holds. -/
theorem pushG {e s : TypeId} {z : Value} {by' : Nat} (hu : Try.prog.underlying s = some (.slice e)) (hi : (Try.prog.info? e).map (fun i => (i.zero, i.size, i.bytes)) = some (some z, 1, by')) (hz : z.cells.size = 1) (hb1 : 1 ≤ by') (X : World) (B : Nat) (v : Value) (j : Nat) (us : List Value) (u : Value) (hu1 : u.oneCell' = true) (hown : X.ownsRow B e 1 v j us) (hj : (j + 1) * by' ≤ 140737488355328) (hB : B ≤ X.heap.size) :
    ∃ g' c' X', (Builtin.append_ #[s, s] s #[v, .slice (some ⟨X.heap.size, 0, none⟩) 1 1]).run Try.prog (X.alloc (.cells #[u] e)) = .ok (.slice (some ⟨g', 0, none⟩) (j + 1) c') X' ∧
      X'.ownsRow B e 1 (.slice (some ⟨g', 0, none⟩) (j + 1) c') (j + 1) (us ++ [u]) ∧ Kept (fun b => v.ownBlock = some b) X X' ∧ (v.ownBlock = some g' ∨ g' = X.heap.size + 1) := by
  obtain ⟨i0, hi0, hz0, hz1, hz2⟩ := info_parts hi
  have hjj : j + 1 ≤ 140737488355328 := Nat.le_trans (Nat.le_mul_of_pos_right _ hb1) hj
  have hY : (X.alloc (.cells #[u] e)).ownsRow B e 1 v j us := owns_kept hown ((Kept.refl (fun _ => False) X).alloc _) (fun _ _ e => e)
  obtain ⟨v', w', hrun, ho, hg, _, hb⟩ := run_append_own_at (P := Try.prog) (X.alloc (.cells #[u] e)) B s s e i0 _ 1 by' hu hi0 hz0 hz1 hz2 hz (by omega) _ j _ hY ⟨X.heap.size, 0, none⟩ 1 1 [u] rfl (fun q x hq => cell_one_new X u e q x hq) (fun x hx => by simp at hx; subst hx; exact hu1) (by unfold maxLen; omega) hj (by simp; omega)
  obtain ⟨g', c', rfl⟩ : ∃ g' c', v' = .slice (some ⟨g', 0, none⟩) (j + 1) c' := by
    rcases ho.2 with ⟨_, e⟩ | ⟨g', cap', cur, hv, _⟩
    · omega
    · exact ⟨g', cap', hv⟩
  refine ⟨g', c', w', hrun, ho, ((Kept.refl (fun b => v.ownBlock = some b) X).alloc _).grown hg (fun q _ e => e), ?_⟩
  rw [World.size_alloc] at hb
  simp [Value.ownBlock] at hb ⊢
  rcases hb with e | e
  · left; exact e.symm
  · right; exact e

/-- Rows of which all but one are told. -/
def OwnX (B : Nat) (W : World) (us : List Value) (L : List (List Int)) (gB j : Nat) : Prop :=
  us.length = L.length ∧ (∀ i, i < L.length → i ≠ j → Own1 B W (us.getD i (.slice none 0 0)) (L.getD i []) gB) ∧ ∀ i i', i < i' → i' < L.length → i ≠ j → i' ≠ j → (us.getD i (.slice none 0 0)).ownBlock ≠ (us.getD i' (.slice none 0 0)).ownBlock
theorem OwnRs.hole {B : Nat} {W : World} {us : List Value} {L : List (List Int)} {gB : Nat} (h : OwnRs B W us L gB) (j : Nat) : OwnX B W us L gB j := ⟨h.1, fun i hi _ => h.2.1 i hi, fun i i' h1 h2 _ _ => h.2.2 i i' h1 h2⟩
/-- The block g is none of the others' blocks. -/
def Apart (us : List Value) (n g j : Nat) : Prop := ∀ i, i < n → i ≠ j → (us.getD i (.slice none 0 0)).ownBlock ≠ some g
theorem OwnRs.apart {B : Nat} {W : World} {us : List Value} {L : List (List Int)} {gB j g c : Nat} (h : OwnRs B W us L gB) (hj : j < L.length) (hu : us.getD j (.slice none 0 0) = .slice (some ⟨g, 0, none⟩) (L.getD j []).length c) : Apart us L.length g j := by
  intro i hi hne e
  have e2 : (us.getD j (.slice none 0 0)).ownBlock = some g := by rw [hu]; simp [Value.ownBlock]
  rcases Nat.lt_or_ge i j with q | q
  · exact h.2.2 i j q hj (by rw [e, e2])
  · exact h.2.2 j i (by omega) hi (by rw [e, e2])
theorem OwnX.kept {B : Nat} {W W' : World} {us : List Value} {L : List (List Int)} {gB j g : Nat} (h : OwnX B W us L gB j) (hk : Kept (fun b => b = g) W W') (ha : Apart us L.length g j) : OwnX B W' us L gB j :=
  ⟨h.1, fun i hi hne => (h.2.1 i hi hne).kept hk (fun b hb e => ha i hi hne (by rw [hb, e])), h.2.2⟩
theorem OwnX.lt {B : Nat} {W : World} {us : List Value} {L : List (List Int)} {gB j : Nat} (h : OwnX B W us L gB j) {N : Nat} (hN : W.heap.size ≤ N) : Apart us L.length N j := by
  intro i hi hne e
  obtain ⟨g, c, _, o, _⟩ := h.2.1 i hi hne
  have := owns_lt o e
  omega
theorem getD_set_ne {us : List Value} {u : Value} {i j : Nat} (h : i ≠ j) : (us.set j u).getD i (.slice none 0 0) = us.getD i (.slice none 0 0) := by
  rw [List.getD_eq_getElem?_getD, List.getD_eq_getElem?_getD, List.getElem?_set_ne (Ne.symm h)]
theorem getD_set_eq {us : List Value} {u : Value} {j : Nat} (h : j < us.length) : (us.set j u).getD j (.slice none 0 0) = u := by
  rw [List.getD_eq_getElem?_getD, List.getElem?_set_self h]; rfl
theorem getDL_set_ne {L : List (List Int)} {x : List Int} {i j : Nat} (h : i ≠ j) : (L.set j x).getD i [] = L.getD i [] := by
  rw [List.getD_eq_getElem?_getD, List.getD_eq_getElem?_getD, List.getElem?_set_ne (Ne.symm h)]
theorem getDL_set_eq {L : List (List Int)} {x : List Int} {j : Nat} (h : j < L.length) : (L.set j x).getD j [] = x := by
  rw [List.getD_eq_getElem?_getD, List.getElem?_set_self h]; rfl
/-- The row that was left out comes back, its value stored in the list. -/
theorem OwnX.back {B : Nat} {W : World} {us : List Value} {L : List (List Int)} {gB j g c : Nat} {x : List Int} (h : OwnX B W us L gB j) (hj : j < L.length) (ho : W.ownsRow B 2 1 (.slice (some ⟨g, 0, none⟩) x.length c) x.length (x.map zV)) (hg : g ≠ gB) (ha : Apart us L.length g j) (n : Nat) :
    OwnRs B (W.setCell ⟨gB, n, none⟩ (.slice (some ⟨g, 0, none⟩) x.length c)) (us.set j (.slice (some ⟨g, 0, none⟩) x.length c)) (L.set j x) gB := by
  have hju : j < us.length := by rw [h.1]; exact hj
  have other : ∀ {v : Value} {y : List Int} {g' c' : Nat}, v = .slice (some ⟨g', 0, none⟩) y.length c' → W.ownsRow B 2 1 v y.length (y.map zV) → g' ≠ gB → (W.setCell ⟨gB, n, none⟩ (.slice (some ⟨g, 0, none⟩) x.length c)).ownsRow B 2 1 v y.length (y.map zV) := fun hv ho hg' => ownsRow_setCell_other ho (by rw [hv]; simp [Value.ownBlock]; omega) _
  refine ⟨by simp [h.1], fun i hi => ?_, fun i i' h1 h2 => ?_⟩
  · rw [List.length_set] at hi
    by_cases e : i = j
    · subst e
      rw [getD_set_eq hju, getDL_set_eq hj]
      exact ⟨g, c, rfl, other rfl ho hg, hg⟩
    · rw [getD_set_ne e, getDL_set_ne e]
      obtain ⟨g', c', e1, o1, n1⟩ := h.2.1 i hi e
      exact ⟨g', c', e1, other e1 o1 n1, n1⟩
  · rw [List.length_set] at h2
    by_cases e : i = j
    · subst e
      rw [getD_set_eq hju, getD_set_ne (by omega)]
      exact fun q => ha i' h2 (by omega) q.symm
    · by_cases e' : i' = j
      · subst e'
        rw [getD_set_eq hju, getD_set_ne e]
        exact fun q => ha i (by omega) e q
      · rw [getD_set_ne e, getD_set_ne e']
        exact h.2.2 i i' h1 h2 e e'
/-- A number of a row is stored. -/
theorem OwnRs.put {B : Nat} {W : World} {us : List Value} {L : List (List Int)} {gB j g c : Nat} (h : OwnRs B W us L gB) (hj : j < L.length) (hu : us.getD j (.slice none 0 0) = .slice (some ⟨g, 0, none⟩) (L.getD j []).length c) (n : Nat) (v : Int) :
    OwnRs B (W.setCell ⟨g, n, none⟩ (zV v)) us (L.set j ((L.getD j []).set n v)) gB := by
  have ha := h.apart hj hu
  refine ⟨by simp [h.1], fun i hi => ?_, fun i i' h1 h2 => h.2.2 i i' h1 (by simpa using h2)⟩
  rw [List.length_set] at hi
  by_cases e : i = j
  · subst e
    rw [getDL_set_eq hj]
    obtain ⟨g', c', e1, o1, n1⟩ := h.2.1 i hi
    rw [hu] at e1
    injection e1 with q1 _ q3
    injection q1 with q1
    injection q1 with q1
    subst q1
    subst q3
    refine ⟨g, c, by rw [List.length_set]; exact hu, ?_, n1⟩
    rw [hu] at o1 ⊢
    rw [List.length_set, List.map_set]
    exact own_setB o1
  · rw [getDL_set_ne e]
    obtain ⟨g', c', e1, o1, n1⟩ := h.2.1 i hi
    exact ⟨g', c', e1, ownsRow_setCell_other o1 (by intro q; exact ha i hi e q) _, n1⟩

/-- Rows of which the first j are the one, the others the other. -/
def upTo (m j : Nat) (F L : Nat → List Int) : List (List Int) := (List.range m).map (fun r => if r < j then F r else L r)
theorem upTo_length (m j : Nat) (F L : Nat → List Int) : (upTo m j F L).length = m := by simp [upTo]
theorem upTo_get {m j r : Nat} (F L : Nat → List Int) (h : r < m) : (upTo m j F L).getD r [] = if r < j then F r else L r := by
  rw [List.getD_eq_getElem?_getD]; simp [upTo, h]
theorem upTo_set {m j : Nat} (F L : Nat → List Int) (_h : j < m) : (upTo m j F L).set j (F j) = upTo m (j + 1) F L := by
  apply List.ext_getElem (by simp [upTo])
  intro i h1 h2
  rw [List.getElem_set]
  simp only [upTo, List.getElem_map, List.getElem_range]
  by_cases e : j = i
  · subst e; simp
  · rw [if_neg e]
    by_cases q : i < j
    · rw [if_pos q, if_pos (by omega)]
    · rw [if_neg q, if_neg (by omega)]
theorem upTo_end (m : Nat) (F L L' : Nat → List Int) : upTo m m F L = upTo m 0 L' F := by
  apply List.map_congr_left
  intro r hr
  have : r < m := by simpa using hr
  simp [this]
theorem upTo_self (L : List (List Int)) (F : Nat → List Int) : upTo L.length 0 F (fun r => L.getD r []) = L := by
  apply List.ext_getElem (by simp [upTo])
  intro i h1 h2
  simp [upTo, h2]
/-- A row of which the first numbers are stored. -/
def stored (x : List Int) (n : Nat) (v : Int) : List Int := List.replicate n v ++ x.drop n
theorem stored_length {x : List Int} {n : Nat} (v : Int) (h : n ≤ x.length) : (stored x n v).length = x.length := by simp [stored]; omega
theorem stored_set {x : List Int} {n : Nat} (v : Int) (h : n < x.length) : (stored x n v).set n v = stored x (n + 1) v := by
  unfold stored
  rw [List.set_append_right _ _ (by simp), List.length_replicate, Nat.sub_self, List.drop_eq_getElem_cons h, List.set_cons_zero, List.replicate_succ', List.append_assoc]
  rfl
theorem stored_zero (x : List Int) (v : Int) : stored x 0 v = x := by simp [stored]
theorem stored_all (x : List Int) (v : Int) : stored x x.length v = List.replicate x.length v := by simp [stored]

theorem OwnRs.keptT {B : Nat} {W W' : World} {us : List Value} {L : List (List Int)} {gB : Nat} {T : Nat → Prop} (h : OwnRs B W us L gB) (hk : Kept T W W') (hT : ∀ r, r < L.length → ∀ b, (us.getD r (.slice none 0 0)).ownBlock = some b → ¬ T b) : OwnRs B W' us L gB := ⟨h.1, fun i hi => (h.2.1 i hi).kept hk (hT i hi), h.2.2⟩
/-- A list of rows of one's own, whether or not it is nil. -/
theorem OL.parts {B : Nat} {W : World} {v : Value} {L : List (List Int)} (h : OL B W v L) : ∃ g us ha, v = .slice ha L.length L.length ∧ W.ownsRow B 40 1 (.slice ha L.length L.length) L.length us ∧ OwnRs B W us L g ∧ (0 < L.length → ha = some ⟨g, 0, none⟩ ∧ B ≤ g ∧ g < W.heap.size) ∧ ∀ r, r < L.length → ∀ b, (us.getD r (.slice none 0 0)).ownBlock = some b → B ≤ b ∧ b < W.heap.size := by
  rcases h with ⟨rfl, rfl⟩ | ⟨g, us, rfl, h2, h3⟩
  · exact ⟨0, [], none, rfl, own_nil _ _ _, OwnRs.nil _ _ _, fun h => absurd h (Nat.lt_irrefl _), fun r h => absurd h (Nat.not_lt_zero r)⟩
  · refine ⟨g, us, _, rfl, h2, h3, fun _ => ⟨rfl, (own_block h2).1, (own_block h2).2.1⟩, fun r hr b hb => ?_⟩
    obtain ⟨g', c', _, o1, _⟩ := h3.2.1 r hr
    exact ⟨own_ge o1 hb, owns_lt o1 hb⟩
theorem upTo_same {m j : Nat} (F L : Nat → List Int) (_h : j < m) : (upTo m j F L).set j (L j) = upTo m j F L := by
  apply List.ext_getElem (by simp)
  intro i h1 h2
  rw [List.getElem_set]
  by_cases e : j = i
  · subst e; simp [upTo]
  · rw [if_neg e]
end Go.Proofs.Ytjffiojjjmecgab
