/-
  A row of truth values copied; a queue in a slice of which the front is cut off.
-/
import Derived.Test.YtdponkpgokncdaaGug
import Derived.Test.YtdponkpgokncdaaGuB
import Derived.ArgAppend
import Derived.Lib.SliceRun
namespace Go.Proofs.Ytdponkpgokncdaa
open Go.RowKit Go.Lib Go.Maps

theorem own_emptyB (w : World) (B : Nat) (hB : B ≤ w.heap.size) (e : TypeId) : (w.alloc (.cells #[] e)).ownsRow B e 1 (.slice (some ⟨w.heap.size, 0, none⟩) 0 0) 0 [] :=
  ⟨rfl, .inr ⟨w.heap.size, 0, #[], rfl, hB, heap_alloc_new w _, Nat.le_refl _, Nat.zero_le _, rfl, rfl⟩⟩
/-- slices.Clone of truth values of one's own. -/
theorem cloneB_any {B : Nat} (A : List Bool) (g c : Nat) (w : World) (h : w.ownsRow B 4 1 (.slice (some ⟨g, 0, none⟩) A.length c) A.length (A.map Value.bool)) (hl : A.length ≤ 1000000) :
    Calls Try.prog 45 #[.slice (some ⟨g, 0, none⟩) A.length c] w fun e w' => ∃ v, e = .returned v ∧ w'.ownsRow w.heap.size 4 1 v A.length (A.map Value.bool) ∧ Fresh w w' := by
  have hF : Fresh w (w.alloc (.cells #[] 4)) := (Kept.refl _ w).alloc _
  obtain ⟨i0, hi0, hz0, hz1, hz2⟩ := info_parts boolInfo
  have h' := owns_kept h hF (fun _ _ e => e)
  obtain ⟨t1, W1, g1, g2, g3, _⟩ := run_append_own (P := Try.prog) (w := w.alloc (.cells #[] 4)) w.heap.size 22 22 4 i0 _ 1 1 Try.underlying22 hi0 hz0 hz1 hz2 rfl (by omega) _ 0 _ (own_emptyB w _ (Nat.le_refl _) _) ⟨g, 0, none⟩ A.length c (A.map Value.bool) (by simp) (fun j u hj => by
    have hj' : j < A.length := by have := (List.getElem?_eq_some_iff.1 hj).1; simpa using this
    rw [Addr.add_lit, Nat.zero_add, h'.cellAt j (by omega)]
    exact hj) (fun u hu => by obtain ⟨_, _, rfl⟩ := List.mem_map.1 hu; rfl) (by unfold maxLen; omega) (by omega) hF.size
  rw [Nat.zero_add, List.nil_append] at g2
  have HO : Hid (W1.ownsRow w.heap.size 4 1 t1 A.length (A.map Value.bool) ∧ Fresh w W1) := ⟨g2, hF.grown g3 (fun k hk e => by simp [Value.ownBlock] at e; omega)⟩
  have he : ∀ W : World, Sem.run Try.prog (binOp .eql 22 (.slice (some ⟨g, 0, none⟩) A.length c) (.slice none 0 0)) W = .ok (.bool false) W := fun W => Lib.run_eql_slice_nil W _ _ _ _ _ 0 0 Try.underlying22
  clear g2 g3 hF h h' hz0 hz1 hz2 hi0
  generalize hm : A.map Value.bool = M at *
  have HM : Hid (A.map Value.bool = M) := hm
  clear hm
  generalize A.length = n at *
  go_enter Try.func45, Try.ntmps45
  go_wp2_with (at_builtin; refine Lib.wpList_append_run _ rfl _ _ _ _ rfl _ _ rfl rfl _ _ g1 ?_)
  go_ret
  exact ⟨_, rfl, HO.out.1, HO.out.2⟩
/-- A queue of numbers in memory from B on. -/
def QuR (B : Nat) (W : World) (v : Value) (q : List Int) : Prop := (v = .slice none 0 0 ∧ q = []) ∨ ∃ g off cap cur, v = .slice (some ⟨g, off, none⟩) q.length cap ∧ B ≤ g ∧ W.heap[g]? = some (.cells cur 3 (0, 0)) ∧ q.length ≤ cap ∧ off + cap ≤ cur.size ∧ ∀ i, i < q.length → cur[off + i]? = some (zV (q.getD i 0))
theorem QuR.nil (B : Nat) (W : World) : QuR B W (.slice none 0 0) [] := .inl ⟨rfl, rfl⟩
theorem QuR.shape {B : Nat} {W : World} {v : Value} {q : List Int} (h : QuR B W v q) : ∃ ao cap, v = .slice ao q.length cap := by
  rcases h with ⟨rfl, rfl⟩ | ⟨g, off, cap, cur, rfl, _⟩
  · exact ⟨none, 0, rfl⟩
  · exact ⟨_, cap, rfl⟩
theorem QuR.kept {B : Nat} {S : Nat → Prop} {W W' : World} {v : Value} {q : List Int} (h : QuR B W v q) (hk : Kept S W W') (hn : ∀ k, B ≤ k → ¬ S k) : QuR B W' v q := by
  rcases h with h | ⟨g, off, cap, cur, h1, h2, h3, h4⟩
  · exact .inl h
  · exact .inr ⟨g, off, cap, cur, h1, h2, hk.at h3 (hn g h2), h4⟩
/-- One more waits. -/
theorem QuR.push {B : Nat} {X : World} {v : Value} {q : List Int} (h : QuR B X v q) (x : Int) (hB : B ≤ X.heap.size) (hb : q.length + 1 ≤ 1000000) :
    ∃ v' X', (Builtin.append_ #[58, 58] 58 #[v, .slice (some ⟨X.heap.size, 0, none⟩) 1 1]).run Try.prog (X.alloc (.cells #[.int .i64 x] 3)) = .ok v' X' ∧ QuR B X' v' (q ++ [x]) ∧ Kept (fun k => B ≤ k) X X' := by
  obtain ⟨i0, hi0, hz0, hz1, hz2⟩ := info_parts tyIg.info
  have hF : Fresh X (X.alloc (.cells #[.int .i64 x] 3)) := (Kept.refl _ X).alloc _
  have hnew : ∀ (j : Nat) (u : Value), [Value.int .i64 x][j]? = some u → (X.alloc (.cells #[.int .i64 x] 3)).cell? ((⟨X.heap.size, 0, none⟩ : Addr).add j) = some u := fun j u hj => cell_one_new X (.int .i64 x) 3 j u hj
  rcases h with ⟨rfl, rfl⟩ | ⟨g, off, cap, cur, rfl, hg, hh, hc, hsz, hcell⟩
  · obtain ⟨g', c', X', r1, r2, r3, r4⟩ := pushG X B (.slice none 0 0) [] x ⟨rfl, .inl ⟨rfl, rfl⟩⟩ hB (by simp)
    refine ⟨_, X', r1, ?_, r3.mono (fun k _ e => by simp [Value.ownBlock] at e)⟩
    rcases r2.2 with ⟨e, _⟩ | ⟨g2, cap2, cur2, hv, hb2, hh2, h4, h5, h6, h7⟩
    · cases e
    · injection hv with e1 e2 e3
      injection e1 with e1
      injection e1 with e1
      subst e1 e3
      refine .inr ⟨g', 0, c', cur2, rfl, hb2, hh2, h4, by omega, fun i hi => ?_⟩
      have hi0 : i = 0 := by simp at hi; omega
      subst hi0
      have h8 : (cur2.toList.take 1)[0]? = some (zV x) := by
        have h9 : cur2.toList.take 1 = [zV x] := h7
        rw [h9]; rfl
      rw [List.getElem?_take_of_lt (by omega), Array.getElem?_toList] at h8
      exact h8
  · by_cases hroom : q.length + 1 ≤ cap
    · have hh2 := hF.at hh (fun e => e)
      have hlt : off + q.length < cur.size := by omega
      have hrun := run_append_room_cells (P := Try.prog) (w := X.alloc (.cells #[.int .i64 x] 3)) 58 58 3 i0 tyIg.u hi0 g off q.length cap ⟨X.heap.size, 0, none⟩ 1 1 [.int .i64 x] (by rw [hz1]; rfl) hnew (fun u hu => by simp at hu; subst hu; rfl) hroom (fun j hj => by
        have hj0 : j = 0 := by simp at hj; omega
        subst hj0
        rw [hz1, Nat.mul_one, Nat.add_zero, Lib.cell_of_heap hh2, Array.getElem?_eq_getElem hlt]
        rfl) (fun j hj => Lib.frozen_of_heap hh2 _)
      rw [hz1, Nat.mul_one] at hrun
      refine ⟨_, _, hrun, .inr ⟨g, off, cap, cur.setIfInBounds (off + q.length) (.int .i64 x), by rw [List.length_append]; rfl, hg, ?_, by rw [List.length_append]; exact hroom, by rw [Array.size_setIfInBounds]; exact hsz, fun i hi => ?_⟩, ?_⟩
      · show ((X.alloc _).setCell ⟨g, off + q.length, none⟩ _).heap[g]? = _
        exact Lib.heap_setCell_same hh2 _ (i := off + q.length)
      · rw [List.length_append, List.length_singleton] at hi
        by_cases e : i = q.length
        · subst e
          rw [Array.getElem?_setIfInBounds_self_of_lt hlt, List.getD_eq_getElem?_getD, List.getElem?_append_right (Nat.le_refl _), Nat.sub_self]
          rfl
        · rw [Array.getElem?_setIfInBounds_ne (by omega), List.getD_eq_getElem?_getD, List.getElem?_append_left (by omega), ← List.getD_eq_getElem?_getD]
          exact hcell i (by omega)
      · show Kept _ X ((X.alloc _).setCell ⟨g, off + q.length, none⟩ _)
        exact ((Kept.refl (fun k => B ≤ k) X).alloc _).setCell (p := ⟨g, off + q.length, none⟩) (fun _ => hg) _
    · have hh2 := hF.at hh (fun e => e)
      obtain ⟨v', X', hrun, hown, hgr⟩ := run_append_arg_grows (P := Try.prog) (w := X.alloc (.cells #[.int .i64 x] 3)) 58 58 3 i0 _ 1 8 tyIg.u hi0 hz0 hz1 hz2 rfl (by omega) ⟨g, off, none⟩ q.length cap (q.map zV) (by simp) (fun j u hj => by
        have hj' : j < q.length := by have := (List.getElem?_eq_some_iff.1 hj).1; simpa using this
        rw [Addr.add_lit, Lib.cell_of_heap hh2, hcell j hj', List.getD_eq_getElem?_getD, List.getElem?_eq_getElem hj']
        rw [List.getElem?_map, List.getElem?_eq_getElem hj'] at hj
        exact hj) ⟨X.heap.size, 0, none⟩ 1 1 [.int .i64 x] rfl hnew (by omega) (by unfold maxLen; omega) (by omega)
      have hk : Fresh X X' := hF.grown hgr (fun _ _ e => by cases e)
      refine ⟨v', X', hrun, ?_, hk.mono (fun _ _ (e : False) => e.elim)⟩
      rcases hown.2 with ⟨_, e⟩ | ⟨g2, cap2, cur2, hv, hb2, hh3, h4, h5, h6, h7⟩
      · omega
      · have h9 : (q.map zV ++ [Value.int .i64 x]) = (q ++ [x]).map zV := by rw [List.map_append]; rfl
        rw [h9] at h7
        refine .inr ⟨g2, 0, cap2, cur2, by rw [List.length_append]; exact hv, by rw [World.size_alloc] at hb2; omega, hh3, by rw [List.length_append]; exact h4, by omega, fun i hi => ?_⟩
        have hi' : i < q.length + 1 := by rw [List.length_append] at hi; exact hi
        have h8 : (cur2.toList.take ((q.length + 1) * 1))[i]? = ((q ++ [x]).map zV)[i]? := by rw [h7]
        rw [List.getElem?_take_of_lt (by omega), Array.getElem?_toList, List.getElem?_map, List.getElem?_eq_getElem hi] at h8
        rw [Nat.zero_add, h8, List.getD_eq_getElem?_getD, List.getElem?_eq_getElem hi]
        rfl
end Go.Proofs.Ytdponkpgokncdaa
