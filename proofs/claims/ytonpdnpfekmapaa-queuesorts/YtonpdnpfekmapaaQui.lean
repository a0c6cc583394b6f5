/-
  A line of runs in memory, and where an element belongs in it.
-/
import Derived.Test.YtonpdnpfekmapaaQuh
import Derived.Test.YtonpdnpfekmapaaQuf
import Derived.Test.YtonpdnpfekmapaaQue
namespace Go.Proofs.Ytonpdnpfekmapaa
open Go.RowKit Go.Lib

/-- A run: its row, and its elements. -/
structure Run where
  v : Value
  els : List El
abbrev flat (R : List Run) : List El := (R.map Run.els).flatten
/-- A line in memory: the row of its runs is lv. -/
structure LnM (w : World) (lv : Value) (R : List Run) : Prop where
  own : w.ownsRow 0 162 1 lv R.length (R.map Run.v)
  run : ∀ r ∈ R, w.ownsRow 0 130 1 r.v r.els.length (r.els.map pV)
  ne : ∀ r ∈ R, r.els ≠ []
  nd : R.Pairwise fun r s => r.v.ownBlock ≠ s.v.ownBlock
  el : ∀ r ∈ R, ∀ x ∈ r.els, ElAt w x
/-- Its blocks, the elements' aside. -/
def LF (lv : Value) (R : List Run) (k : Nat) : Prop := lv.ownBlock = some k ∨ ∃ r ∈ R, r.v.ownBlock = some k
/-- A queue's own block. -/
def QB (w : World) (qb : Nat) (N : Nat) (lv : Value) (M tk ar : Nat) : Prop := w.heap[qb]? = some (.cells #[nV N, lv, .map (some M), nV tk, nV ar] 100 (0, 0))

theorem QB.cells {w : World} {qb N : Nat} {lv : Value} {M tk ar : Nat} (h : QB w qb N lv M tk ar) : w.cell? ⟨qb, 0, none⟩ = some (nV N) ∧ w.cell? ⟨qb, 1, none⟩ = some lv ∧ w.cell? ⟨qb, 2, none⟩ = some (.map (some M)) ∧ w.cell? ⟨qb, 3, none⟩ = some (nV tk) ∧ w.cell? ⟨qb, 4, none⟩ = some (nV ar) := by
  simp [World.cell?, show w.heap[qb]? = _ from h]
theorem QB.frozen {w : World} {qb N : Nat} {lv : Value} {M tk ar : Nat} (h : QB w qb N lv M tk ar) (i : Nat) : w.frozen? ⟨qb, i, none⟩ = false := Lib.frozen_of_heap h i
theorem LnM.drewN {w : World} {lv : Value} {R : List Run} (h : LnM w lv R) (n : Nat) : LnM (w.drewN n) lv R := ⟨h.own, h.run, h.ne, h.nd, h.el⟩
/-- A row that has elements. -/
theorem own_some {w : World} {T : TypeId} {v : Value} {n : Nat} {cs : List Value} (h : w.ownsRow 0 T 1 v n cs) (hn : 0 < n) : ∃ g cap, v = .slice (some ⟨g, 0, none⟩) n cap ∧ n ≤ cap ∧ cap ≤ maxLen ∧ ∀ j u, cs[j]? = some u → w.cell? ⟨g, j, none⟩ = some u := by
  obtain ⟨hl, h2⟩ := h
  rcases h2 with ⟨_, e⟩ | ⟨g, cap, cur, hv, _, hh, hnc, hcm, hsz, htk⟩
  · omega
  · refine ⟨g, cap, hv, hnc, hcm, fun j u hj => ?_⟩
    rw [Nat.mul_one] at htk
    simp only [World.cell?, hh]
    rw [← htk, List.getElem?_take] at hj
    split at hj
    · simpa using hj
    · cases hj
theorem own_type {w : World} {T : TypeId} {v : Value} {n : Nat} {cs : List Value} (h : w.ownsRow 0 T 1 v n cs) {k : Nat} (hk : v.ownBlock = some k) : ∃ cur, w.heap[k]? = some (.cells cur T (0, 0)) := by
  obtain ⟨hl, h2⟩ := h
  rcases h2 with ⟨e, _⟩ | ⟨g, cap, cur, hv, _, hh, _⟩
  · rw [e] at hk; cases hk
  · rw [hv] at hk
    simp only [Value.ownBlock, Option.some.injEq] at hk
    subst hk
    exact ⟨cur, hh⟩
theorem LnM.outer {w : World} {lv : Value} {R : List Run} (h : LnM w lv R) {i : Nat} (hi : i < R.length) : ∃ g cap, lv = .slice (some ⟨g, 0, none⟩) R.length cap ∧ R.length ≤ cap ∧ cap ≤ maxLen ∧ w.cell? ⟨g, i, none⟩ = some R[i].v := by
  obtain ⟨g, cap, h1, h2, h3, h4⟩ := own_some h.own (by omega)
  exact ⟨g, cap, h1, h2, h3, h4 i _ (by rw [List.getElem?_map, List.getElem?_eq_getElem hi]; rfl)⟩
theorem LnM.runAt {w : World} {lv : Value} {R : List Run} (h : LnM w lv R) {r : Run} (hr : r ∈ R) : ∃ g cap, r.v = .slice (some ⟨g, 0, none⟩) r.els.length cap ∧ r.els.length ≤ cap ∧ cap ≤ maxLen ∧ ∀ j (hj : j < r.els.length), w.cell? ⟨g, j, none⟩ = some (pV r.els[j]) := by
  obtain ⟨g, cap, h1, h2, h3, h4⟩ := own_some (h.run r hr) (List.length_pos_iff.2 (h.ne r hr))
  exact ⟨g, cap, h1, h2, h3, fun j hj => h4 j _ (by rw [List.getElem?_map, List.getElem?_eq_getElem hj]; rfl)⟩

theorem end_any (r : Run) (w : World) (lv : Value) (R : List Run) (h : LnM w lv R) (hr : r ∈ R) (y : El) (hy : r.els.getLast? = some y) (hl : r.els.length ≤ 1048576) :
    Calls Try.prog 130 #[r.v] w fun e w' => e = .returned (pV y) ∧ w' = w := by
  obtain ⟨g, cap, hv, h1, h2, hc⟩ := h.runAt hr
  have hpos := List.length_pos_iff.2 (h.ne r hr)
  have hc' := hc (r.els.length - 1) (by omega)
  have hy' : r.els[r.els.length - 1] = y := by
    rw [List.getLast?_eq_getElem?, List.getElem?_eq_getElem (by omega)] at hy
    exact Option.some.inj hy
  rw [hy'] at hc'
  rw [hv]
  obtain ⟨m, hm⟩ : ∃ m, r.els.length = m + 1 := ⟨r.els.length - 1, by omega⟩
  rw [hm] at hc' h1 hl ⊢
  rw [Nat.add_sub_cancel] at hc'
  clear hc hy hy' hm hpos h hv
  go_enter Try.func130, Try.ntmps130
  go_wp2
  go_ret
  exact ⟨rfl, rfl⟩

theorem runOf1_any (r : Run) (e : El) (w : World) (lv : Value) (R : List Run) (h : LnM w lv R) (hr : r ∈ R) (y : El) (hy : r.els.getLast? = some y) (hl : r.els.length ≤ 1048576) (he : ElAt w e) :
    Calls Try.prog 129 #[r.v, pV e] w fun q w' => q = .returned (.int .i64 (ord y e)) ∧ ∃ k, w' = w.drewN k := by
  have HE : Hid (Unit → _) := fun (_ : Unit) => end_any r w lv R h hr y hy hl
  have HO : Hid (Unit → _) := fun (_ : Unit) => order_any y e w (h.el r hr y (List.mem_of_getLast? hy)) he
  clear h hy he
  generalize r.v = rv at *
  go_enter Try.func129, Try.ntmps129
  go_wp2_with fail
  refine (HE.out ()).mono ?_
  rintro q w1 ⟨rfl, rfl⟩
  go_wp2_with fail
  refine (HO.out ()).mono ?_
  rintro q w1 ⟨rfl, k, rfl⟩
  go_wp2
  go_ret
  exact ⟨rfl, _, rfl⟩
end Go.Proofs.Ytonpdnpfekmapaa
