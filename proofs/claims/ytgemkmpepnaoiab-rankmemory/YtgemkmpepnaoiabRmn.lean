/-
  The rows of RankMemory: orders and shares, with what each of their rows holds.
-/
import Derived.Test.YtgemkmpepnaoiabRmm
namespace Go.Proofs.Ytgemkmpepnaoiab
open Go.RowKit Go.Lib Go.Maps

theorem perm_at {α : Type} : ∀ {l : List α} {p : Nat} (h : p < l.length), (l[p] :: l.eraseIdx p).Perm l
  | _ :: _, 0, _ => List.Perm.refl _
  | a :: l, p + 1, h => (List.Perm.swap _ _ _).trans ((perm_at (l := l) (p := p) (Nat.lt_of_succ_lt_succ h)).cons a)
theorem Rs.storeAt {B g n cap j p : Nat} {X : World} {u : Value} {r : Rr} {l : List Rr} (h : Rs B X l) (hp : l[p]? = some r) (hv : r.v = .slice (some ⟨g, 0, none⟩) n cap) (hn : r.xs.length = n) : Rs B (X.setCell ⟨g, j, none⟩ u) (l.set p ⟨r.T, r.v, r.xs.set j u⟩) := by
  obtain ⟨hlt, hr⟩ := List.getElem?_eq_some_iff.1 hp
  have h1 : Rs B X (r :: l.eraseIdx p) := h.perm (by rw [← hr]; exact (perm_at hlt).symm)
  obtain ⟨T, v, xs⟩ := r
  have hv' : v = .slice (some ⟨g, 0, none⟩) n cap := hv
  subst hv'
  have h2 := Rs.store (i := j) (u := u) h1 hn
  refine h2.perm ?_
  have hlt2 : p < (l.set p ⟨T, .slice (some ⟨g, 0, none⟩) n cap, xs.set j u⟩).length := by rw [List.length_set]; exact hlt
  have h3 := perm_at hlt2
  rw [List.getElem_set_self, List.eraseIdx_set_eq] at h3
  exact h3

abbrev rI (v : Value) (L : List Int) : Rr := ⟨3, v, L.map zV⟩
abbrev rL (v : Value) (L : List Int) : Rr := ⟨2, v, L.map zV⟩
abbrev rO (v : Value) (O : List Rr) : Rr := ⟨32, v, O.map Rr.v⟩
abbrev rS (v : Value) (S : List Rr) : Rr := ⟨22, v, S.map Rr.v⟩
def Ms (B : Nat) (W1 X : World) (ov sv : Value) (O S : List Rr) : Prop :=
  (∀ r ∈ O, r.T = 3 ∧ r.xs.length ≤ 17592186043904) ∧ (∀ r ∈ S, r.T = 2 ∧ r.xs.length ≤ 17592186043904) ∧ Rs B X (rO ov O :: rS sv S :: (O ++ S)) ∧ Kept (fun k => B ≤ k) W1 X
def Dn (O : List Rr) (i j : Nat) : Prop := ∀ a r, O[a]? = some r → ∀ b, (a < i ∨ a = i ∧ b < j) → b < r.xs.length → r.xs[b]? = some (zV (-1 - (a : Int)))
theorem map_set_v {O : List Rr} {i : Nat} {r : Rr} (h : O[i]? = some r) (xs : List Value) : (O.set i ⟨r.T, r.v, xs⟩).map Rr.v = O.map Rr.v := by
  obtain ⟨hlt, hr⟩ := List.getElem?_eq_some_iff.1 h
  rw [List.map_set]
  show (O.map Rr.v).set i r.v = _
  rw [← hr, ← List.getElem_map (f := Rr.v) (h := by rw [List.length_map]; exact hlt)]
  exact List.set_getElem_self _
theorem Rr.At.row {B : Nat} {X : World} {r : Rr} (h : r.At B X) : ∃ ao cv, r.v = .slice ao r.xs.length cv ∧ (r.xs.length = 0 ∨ ∃ g, ao = some ⟨g, 0, none⟩) := by
  rcases h.2 with ⟨e, e0⟩ | ⟨g, cap, cur, hv, _⟩
  · exact ⟨none, 0, by rw [e, e0], .inl e0⟩
  · exact ⟨_, cap, hv, .inr ⟨g, rfl⟩⟩
theorem Rr.At.cell {B g n cap i : Nat} {X : World} {r : Rr} (h : r.At B X) (hv : r.v = .slice (some ⟨g, 0, none⟩) n cap) (hn : r.xs.length = n) (hi : i < n) : X.cell? ⟨g, i, none⟩ = r.xs[i]? := by
  unfold Rr.At at h
  rw [hv, hn] at h
  exact h.cellAt i (by omega)
theorem Rr.At.cold {B g n cap : Nat} {X : World} {r : Rr} (h : r.At B X) (hv : r.v = .slice (some ⟨g, 0, none⟩) n cap) (hn : r.xs.length = n) (i : Nat) : X.frozen? ⟨g, i, none⟩ = false := by
  unfold Rr.At at h
  rw [hv, hn] at h
  exact own_frozen h i
section
variable {B og N oc sg M sc : Nat} {W1 X : World} {O S : List Rr}
theorem Ms.rowO (h : Ms B W1 X (.slice (some ⟨og, 0, none⟩) N oc) (.slice (some ⟨sg, 0, none⟩) M sc) O S) {i : Nat} {r : Rr} (hi : O[i]? = some r) : r.At B X := h.2.2.1.own r (by have := List.mem_of_getElem? hi; simp [this])
theorem Ms.rowS (h : Ms B W1 X (.slice (some ⟨og, 0, none⟩) N oc) (.slice (some ⟨sg, 0, none⟩) M sc) O S) {i : Nat} {r : Rr} (hi : S[i]? = some r) : r.At B X := h.2.2.1.own r (by have := List.mem_of_getElem? hi; simp [this])
theorem Ms.cellO (h : Ms B W1 X (.slice (some ⟨og, 0, none⟩) N oc) (.slice (some ⟨sg, 0, none⟩) M sc) O S) (hN : O.length = N) {i : Nat} {r : Rr} (hi : O[i]? = some r) : X.cell? ⟨og, i, none⟩ = some r.v := by
  have h1 := (h.2.2.1.own (rO (.slice (some ⟨og, 0, none⟩) N oc) O) (by simp)).cell (i := i) rfl (by show (O.map Rr.v).length = _; rw [List.length_map, hN]) (by rw [← hN]; exact (List.getElem?_eq_some_iff.1 hi).1)
  rw [h1]
  show (O.map Rr.v)[i]? = _
  rw [List.getElem?_map, hi]
  rfl
theorem Ms.cellS (h : Ms B W1 X (.slice (some ⟨og, 0, none⟩) N oc) (.slice (some ⟨sg, 0, none⟩) M sc) O S) (hM : S.length = M) {i : Nat} {r : Rr} (hi : S[i]? = some r) : X.cell? ⟨sg, i, none⟩ = some r.v := by
  have h1 := (h.2.2.1.own (rS (.slice (some ⟨sg, 0, none⟩) M sc) S) (by simp)).cell (i := i) rfl (by show (S.map Rr.v).length = _; rw [List.length_map, hM]) (by rw [← hM]; exact (List.getElem?_eq_some_iff.1 hi).1)
  rw [h1]
  show (S.map Rr.v)[i]? = _
  rw [List.getElem?_map, hi]
  rfl
theorem Ms.storeO (h : Ms B W1 X (.slice (some ⟨og, 0, none⟩) N oc) (.slice (some ⟨sg, 0, none⟩) M sc) O S) {i j g n cv : Nat} {r : Rr} (hi : O[i]? = some r) (hv : r.v = .slice (some ⟨g, 0, none⟩) n cv) (hn : r.xs.length = n) (u : Value) :
    Ms B W1 (X.setCell ⟨g, j, none⟩ u) (.slice (some ⟨og, 0, none⟩) N oc) (.slice (some ⟨sg, 0, none⟩) M sc) (O.set i ⟨r.T, r.v, r.xs.set j u⟩) S := by
  have hlt := (List.getElem?_eq_some_iff.1 hi).1
  have hmem := List.mem_of_getElem? hi
  refine ⟨fun s hs => ?_, h.2.1, ?_, h.2.2.2.setCell (p := ⟨g, j, none⟩) (fun _ => ((h.rowO hi).lt (by rw [hv]; simp [Value.ownBlock])).1) u⟩
  · rcases List.mem_or_eq_of_mem_set hs with e | e
    · exact h.1 s e
    · subst e; exact ⟨(h.1 r hmem).1, by show (r.xs.set j u).length ≤ _; rw [List.length_set]; exact (h.1 r hmem).2⟩
  · have h1 := h.2.2.1.storeAt (p := i + 2) (r := r) (j := j) (u := u) (by show (O ++ S)[i]? = _; rw [List.getElem?_append_left hlt]; exact hi) hv hn
    rw [List.set_cons_succ, List.set_cons_succ, List.set_append_left _ _ hlt] at h1
    unfold rO at h1 ⊢
    rw [map_set_v hi]
    exact h1
theorem Ms.storeS (h : Ms B W1 X (.slice (some ⟨og, 0, none⟩) N oc) (.slice (some ⟨sg, 0, none⟩) M sc) O S) {i j g n cv : Nat} {r : Rr} (hi : S[i]? = some r) (hv : r.v = .slice (some ⟨g, 0, none⟩) n cv) (hn : r.xs.length = n) (u : Value) :
    Ms B W1 (X.setCell ⟨g, j, none⟩ u) (.slice (some ⟨og, 0, none⟩) N oc) (.slice (some ⟨sg, 0, none⟩) M sc) O (S.set i ⟨r.T, r.v, r.xs.set j u⟩) := by
  have hmem := List.mem_of_getElem? hi
  refine ⟨h.1, fun s hs => ?_, ?_, h.2.2.2.setCell (p := ⟨g, j, none⟩) (fun _ => ((h.rowS hi).lt (by rw [hv]; simp [Value.ownBlock])).1) u⟩
  · rcases List.mem_or_eq_of_mem_set hs with e | e
    · exact h.2.1 s e
    · subst e; exact ⟨(h.2.1 r hmem).1, by show (r.xs.set j u).length ≤ _; rw [List.length_set]; exact (h.2.1 r hmem).2⟩
  · have h1 := h.2.2.1.storeAt (p := O.length + i + 2) (r := r) (j := j) (u := u) (by show (O ++ S)[O.length + i]? = _; rw [List.getElem?_append_right (by omega), Nat.add_sub_cancel_left]; exact hi) hv hn
    rw [List.set_cons_succ, List.set_cons_succ, List.set_append_right _ _ (by omega), Nat.add_sub_cancel_left] at h1
    unfold rS at h1 ⊢
    rw [map_set_v hi]
    exact h1
theorem rows_perm {O S : List Rr} {o s r : Rr} {p : Nat} (h : (o :: s :: (O ++ S))[p]? = some r) : (o :: s :: (O ++ S)).Perm (r :: (o :: s :: (O ++ S)).eraseIdx p) := by
  obtain ⟨hlt, hr⟩ := List.getElem?_eq_some_iff.1 h
  have := (perm_at hlt).symm
  rw [hr] at this
  exact this
theorem Ms.outO (h : Ms B W1 X (.slice (some ⟨og, 0, none⟩) N oc) (.slice (some ⟨sg, 0, none⟩) M sc) O S) {i : Nat} {r : Rr} (hi : O[i]? = some r) : Rs B X (r :: (rO (.slice (some ⟨og, 0, none⟩) N oc) O :: rS (.slice (some ⟨sg, 0, none⟩) M sc) S :: (O ++ S)).eraseIdx (i + 2)) :=
  h.2.2.1.perm (rows_perm (p := i + 2) (by show (O ++ S)[i]? = _; rw [List.getElem?_append_left (List.getElem?_eq_some_iff.1 hi).1]; exact hi))
theorem Ms.backO {X' : World} (h : Ms B W1 X (.slice (some ⟨og, 0, none⟩) N oc) (.slice (some ⟨sg, 0, none⟩) M sc) O S) {i : Nat} {r : Rr} (hi : O[i]? = some r) (hR : Rs B X' (r :: (rO (.slice (some ⟨og, 0, none⟩) N oc) O :: rS (.slice (some ⟨sg, 0, none⟩) M sc) S :: (O ++ S)).eraseIdx (i + 2))) (hk : Kept (fun k => B ≤ k) W1 X') : Ms B W1 X' (.slice (some ⟨og, 0, none⟩) N oc) (.slice (some ⟨sg, 0, none⟩) M sc) O S :=
  ⟨h.1, h.2.1, hR.perm (rows_perm (p := i + 2) (by show (O ++ S)[i]? = _; rw [List.getElem?_append_left (List.getElem?_eq_some_iff.1 hi).1]; exact hi)).symm, hk⟩
theorem Ms.outS (h : Ms B W1 X (.slice (some ⟨og, 0, none⟩) N oc) (.slice (some ⟨sg, 0, none⟩) M sc) O S) {i : Nat} {r : Rr} (hi : S[i]? = some r) : Rs B X (r :: (rO (.slice (some ⟨og, 0, none⟩) N oc) O :: rS (.slice (some ⟨sg, 0, none⟩) M sc) S :: (O ++ S)).eraseIdx (O.length + i + 2)) :=
  h.2.2.1.perm (rows_perm (p := O.length + i + 2) (by show (O ++ S)[O.length + i]? = _; rw [List.getElem?_append_right (by omega), Nat.add_sub_cancel_left]; exact hi))
theorem Ms.backS {X' : World} (h : Ms B W1 X (.slice (some ⟨og, 0, none⟩) N oc) (.slice (some ⟨sg, 0, none⟩) M sc) O S) {i : Nat} {r : Rr} (hi : S[i]? = some r) (hR : Rs B X' (r :: (rO (.slice (some ⟨og, 0, none⟩) N oc) O :: rS (.slice (some ⟨sg, 0, none⟩) M sc) S :: (O ++ S)).eraseIdx (O.length + i + 2))) (hk : Kept (fun k => B ≤ k) W1 X') : Ms B W1 X' (.slice (some ⟨og, 0, none⟩) N oc) (.slice (some ⟨sg, 0, none⟩) M sc) O S :=
  ⟨h.1, h.2.1, hR.perm (rows_perm (p := O.length + i + 2) (by show (O ++ S)[O.length + i]? = _; rw [List.getElem?_append_right (by omega), Nat.add_sub_cancel_left]; exact hi)).symm, hk⟩
end
theorem Dn.step {O : List Rr} {i j : Nat} {r : Rr} (h : Dn O i j) (hi : O[i]? = some r) : Dn (O.set i ⟨r.T, r.v, r.xs.set j (zV (-1 - (i : Int)))⟩) i (j + 1) := by
  intro a s ha b hb hl
  have hlt := (List.getElem?_eq_some_iff.1 hi).1
  by_cases e : a = i
  · subst e
    rw [List.getElem?_set_self hlt] at ha
    cases ha
    have hl' : b < r.xs.length := by have : b < (r.xs.set j (zV (-1 - (a : Int)))).length := hl; rw [List.length_set] at this; exact this
    show (r.xs.set j _)[b]? = _
    by_cases eb : b = j
    · subst eb; exact List.getElem?_set_self hl'
    · rw [List.getElem?_set_ne (by omega)]
      exact h a r hi b (by omega) hl'
  · rw [List.getElem?_set_ne (by omega)] at ha
    exact h a s ha b (by omega) hl
theorem Dn.next {O : List Rr} {i j : Nat} {r : Rr} (h : Dn O i j) (hi : O[i]? = some r) (hl : r.xs.length ≤ j) : Dn O (i + 1) 0 := by
  intro a s ha b hb hlb
  by_cases e : a = i
  · subst e
    rw [hi] at ha
    cases ha
    exact h a r hi b (by omega) hlb
  · exact h a s ha b (by omega) hlb
theorem Dn.zero (O : List Rr) : Dn O 0 0 := fun a _ _ b hb _ => by omega
end Go.Proofs.Ytgemkmpepnaoiab
