/-
  alive: the walk.
-/
import Derived.Test.YtdponkpgokncdaaGui
import Derived.Test.YtdponkpgokncdaaGul
import Derived.Deep.LoopGhost
namespace Go.Proofs.Ytdponkpgokncdaa
open Go.RowKit Go.Lib Go.Maps

theorem memk_stay {B n : Nat} {W1 X : World} {kv : Value} {us : List Value} {F : Nat → List Int} (h : MemK .i64 3 58 B W1 kv us F []) (hk : Kept (fun k => W1.heap.size ≤ k) W1 X) (_ : n = n) : MemK .i64 3 58 B X kv us F [] :=
  Rs.kept h hk (fun r hr k hk e => by have := (Rr.At.lt (h.own r hr) hk).2; have e' : W1.heap.size ≤ k := e; omega)
theorem memk_cell {B kg n : Nat} {wr : World} {us : List Value} {F : Nat → List Int} (hm : MemK .i64 3 58 B wr (.slice (some ⟨kg, 0, none⟩) n n) us F []) (hl : us.length = n) {t : Nat} (ht : t < n) : ∃ ao cp, wr.cell? ⟨kg, t, none⟩ = some (.slice ao (F t).length cp) ∧ (0 < (F t).length → ∃ g, ao = some ⟨g, 0, none⟩) := by
  have hp : t < us.length := by rw [hl]; exact ht
  obtain ⟨g, cc, e1, e2⟩ := hm.cell hp
  injection e1 with e3
  injection e3 with e3
  injection e3 with e3
  subst e3
  have hr := hm.row hp
  obtain ⟨ao, cp, e4⟩ := ownsRow_shape hr
  rw [e4] at e2
  refine ⟨ao, cp, e2, fun h0 => ?_⟩
  rcases hr.2 with ⟨_, e⟩ | ⟨g', cap', cur, hv, _⟩
  · omega
  · rw [e4] at hv
    injection hv with e5 _ e6
    exact ⟨g', e5⟩
theorem memk_num {B kg n : Nat} {W wr : World} {us : List Value} {F : Nat → List Int} (hm : MemK .i64 3 58 B wr (.slice (some ⟨kg, 0, none⟩) n n) us F []) (hl : us.length = n) {t : Nat} (ht : t < n) {g m cp : Nat} (hm0 : MemK .i64 3 58 B W (.slice (some ⟨kg, 0, none⟩) n n) us F []) (hc : W.cell? ⟨kg, t, none⟩ = some (.slice (some ⟨g, 0, none⟩) m cp)) : ∀ i, i < (F t).length → wr.cell? ⟨g, i, none⟩ = some (zV ((F t).getD i 0)) := by
  have hp : t < us.length := by rw [hl]; exact ht
  obtain ⟨g0, cc, e1, e2⟩ := hm0.cell hp
  injection e1 with e3
  injection e3 with e3
  injection e3 with e3
  subst e3
  rw [hc] at e2
  simp only [Option.some.injEq] at e2
  have hr := hm.row hp
  intro i hi
  rw [← e2] at hr
  rcases hr.2 with ⟨_, e⟩ | ⟨g', cap', cur, hv, _⟩
  · omega
  · injection hv with e5 e7 e6
    subst e7
    rw [hr.cellAt i (by omega), List.getElem?_map, List.getD_eq_getElem?_getD, List.getElem?_eq_getElem hi]
    rfl
/-- What alive knows, in memory. -/
structure AlS (w W1 wr : World) (B2 : Nat) (n gA cA : Nat) (L : List Bool) (q : List Int) (qv : Value) : Prop where
  al : wr.ownsRow W1.heap.size 4 1 (.slice (some ⟨gA, 0, none⟩) n cA) n (L.map Value.bool)
  qu : QuR B2 wr qv q
  kp : Kept (fun k => W1.heap.size ≤ k) W1 wr
  sz : B2 ≤ wr.heap.size
  b1 : W1.heap.size ≤ B2
  gb : gA < B2
  wf : Fresh w W1
section
variable {w W1 wr : World} {B2 n gA cA : Nat} {L : List Bool} {q : List Int} {qv : Value}
theorem AlS.len (h : AlS w W1 wr B2 n gA cA L q qv) : L.length = n := by
  have := h.al.1
  rwa [List.length_map, Nat.mul_one] at this
theorem AlS.cell (h : AlS w W1 wr B2 n gA cA L q qv) {s : Nat} (hs : s < n) : wr.cell? ⟨gA, s, none⟩ = some (.bool (L.getD s false)) := by
  rw [h.al.cellAt s (by omega), List.getElem?_map, List.getD_eq_getElem?_getD, List.getElem?_eq_getElem (by rw [h.len]; exact hs)]
  rfl
theorem AlS.froz (h : AlS w W1 wr B2 n gA cA L q qv) (s : Nat) : wr.frozen? ⟨gA, s, none⟩ = false := by
  rcases h.al.2 with ⟨e, _⟩ | ⟨g', cap', cur, hv, hb, hh, _⟩
  · cases e
  · injection hv with e1
    injection e1 with e1
    injection e1 with e1
    subst e1
    exact Lib.frozen_of_heap hh s
theorem AlS.ge (h : AlS w W1 wr B2 n gA cA L q qv) : W1.heap.size ≤ gA := own_ge3 h.al rfl
theorem AlS.fresh (h : AlS w W1 wr B2 n gA cA L q qv) {X : World} (hk : Fresh wr X) : AlS w W1 X B2 n gA cA L q qv :=
  ⟨owns_kept h.al hk (fun _ _ e => e), h.qu.kept hk (fun _ _ e => e), h.kp.trans hk (fun _ _ (e : False) => e.elim), Nat.le_trans h.sz hk.size, h.b1, h.gb, h.wf⟩
theorem AlS.mark (h : AlS w W1 wr B2 n gA cA L q qv) (s : Nat) : AlS w W1 (wr.setCell ⟨gA, s, none⟩ (.bool true)) B2 n gA cA (L.set s true) q qv := by
  have hk : Kept (fun k => k = gA) wr (wr.setCell ⟨gA, s, none⟩ (.bool true)) := (Kept.refl (fun k => k = gA) wr).setCell (p := ⟨gA, s, none⟩) (fun _ => rfl) _
  have hge := h.ge
  have hgb := h.gb
  refine ⟨?_, h.qu.kept hk (fun k hk e => by omega), h.kp.trans hk (fun i _ e => by have e' : i = gA := e; omega), Nat.le_trans h.sz hk.size, h.b1, h.gb, h.wf⟩
  rw [List.map_set]
  exact own_setB h.al
theorem AlS.push (h : AlS w W1 wr B2 n gA cA L q qv) (x : Int) (hb : q.length + 1 ≤ 1000000) :
    ∃ v' X', (Builtin.append_ #[58, 58] 58 #[qv, .slice (some ⟨wr.heap.size, 0, none⟩) 1 1]).run Try.prog (wr.alloc (.cells #[.int .i64 x] 3)) = .ok v' X' ∧ AlS w W1 X' B2 n gA cA L (q ++ [x]) v' := by
  obtain ⟨v', X', r1, r2, r3⟩ := h.qu.push x h.sz hb
  have hb1 := h.b1
  have hgb := h.gb
  refine ⟨v', X', r1, owns_kept h.al r3 (fun g e e2 => ?_), r2, h.kp.trans r3 (fun i _ e => by have e' : B2 ≤ i := e; omega), Nat.le_trans h.sz r3.size, h.b1, h.gb, h.wf⟩
  have e' : some gA = some g := e
  simp only [Option.some.injEq] at e'
  have e2' : B2 ≤ g := e2
  omega
end
end Go.Proofs.Ytdponkpgokncdaa
