/-
  The tokens that a mask lets follow, in a row; what each leads to.
-/
import Derived.Test.YtdponkpgokncdaaGwj
namespace Go.Proofs.Ytdponkpgokncdaa
open Go.RowKit Go.Lib Go.Maps

/-- The places of a mask that may follow. -/
def mayL (L : List Bool) (k : Nat) : List Int := List.map (fun i : Nat => (i : Int)) (List.filter (fun i : Nat => L.getD i false) (List.range k))
theorem mayL_yes {L : List Bool} {k : Nat} (h : L.getD k false = true) : mayL L (k + 1) = mayL L k ++ [(k : Int)] := by
  unfold mayL
  rw [List.range_succ, List.filter_append, List.map_append]
  simp only [List.filter_cons, h, if_true, List.filter_nil, List.map_cons, List.map_nil]
theorem mayL_no {L : List Bool} {k : Nat} (h : L.getD k false = false) : mayL L (k + 1) = mayL L k := by
  unfold mayL
  rw [List.range_succ, List.filter_append, List.map_append, List.filter_cons, if_neg (by rw [h]; decide), List.filter_nil, List.map_nil, List.append_nil]
theorem mayL_le (L : List Bool) (k : Nat) : (mayL L k).length ≤ k := by
  unfold mayL
  rw [List.length_map]
  exact Nat.le_trans (List.length_filter_le _ _) (by simp)
theorem mayL_mem {L : List Bool} {k : Nat} {z : Int} : z ∈ mayL L k ↔ ∃ i : Nat, i < k ∧ z = i ∧ L.getD i false = true := by
  unfold mayL
  rw [List.mem_map]
  constructor
  · rintro ⟨i, hi, rfl⟩
    obtain ⟨h1, h2⟩ := List.mem_filter.1 hi
    exact ⟨i, List.mem_range.1 h1, rfl, h2⟩
  · rintro ⟨i, hi, rfl, h⟩
    exact ⟨i, List.mem_filter.2 ⟨List.mem_range.2 hi, h⟩, rfl⟩
theorem mayL_get {L : List Bool} {k q : Nat} (h : q < (mayL L k).length) : ∃ i : Nat, i < k ∧ (mayL L k).getD q 0 = i ∧ L.getD i false = true := by
  have hm : (mayL L k).getD q 0 ∈ mayL L k := by
    rw [List.getD_eq_getElem?_getD, List.getElem?_eq_getElem h]
    exact List.getElem_mem h
  exact mayL_mem.1 hm
theorem mayL_pos {L : List Bool} (h : anyB L = true) : 0 < (mayL L L.length).length := by
  obtain ⟨i, hi, e⟩ := anyB_iff.1 h
  exact List.length_pos_of_mem (mayL_mem.2 ⟨i, hi, rfl, e⟩)
theorem ms_any {l : List Bool} (h : 0 < l.length) : anyB (msF l) = true := by
  unfold msF
  split
  · assumption
  · exact anyB_iff.2 ⟨0, by simpa using h, by rw [List.getD_eq_getElem?_getD]; simp [h]⟩
/-- A true place of a mask: it is true of itself, or it is the first one and none is. -/
theorem ms_true {l : List Bool} {i : Nat} (h : (msF l).getD i false = true) : l.getD i false = true ∨ (i = 0 ∧ ∀ k, k < l.length → l.getD k false = false) := by
  unfold msF at h
  split at h
  · exact .inl h
  · rename_i hn
    by_cases e : i = 0
    · refine .inr ⟨e, fun k hk => ?_⟩
      cases hk2 : l.getD k false with
      | false => rfl
      | true => exact absurd (anyB_iff.2 ⟨k, hk, hk2⟩) hn
    · rw [List.getD_eq_getElem?_getD, List.getElem?_set_ne (by omega), ← List.getD_eq_getElem?_getD] at h
      exact .inl h
theorem ms_only {l : List Bool} (hl : 0 < l.length) (h : ∀ k, k < l.length → l.getD k false = false) : mayL (msF l) l.length = [0] := by
  have hn : ¬ anyB l = true := fun e => by
    obtain ⟨i, hi, e2⟩ := anyB_iff.1 e
    rw [h i hi] at e2
    cases e2
  have h0 : (msF l).getD 0 false = true := by
    unfold msF
    rw [if_neg hn, List.getD_eq_getElem?_getD]
    simp [hl]
  have hk : ∀ k, 0 < k → (msF l).getD k false = false := fun k hk => by
    unfold msF
    rw [if_neg hn, List.getD_eq_getElem?_getD, List.getElem?_set_ne (by omega), ← List.getD_eq_getElem?_getD]
    rcases Nat.lt_or_ge k l.length with e | e
    · exact h k e
    · rw [List.getD_eq_getElem?_getD, List.getElem?_eq_none e]
      rfl
  have : ∀ k, mayL (msF l) (k + 1) = [0] := fun k => by
    induction k with
    | zero => rw [mayL_yes h0]; rfl
    | succ k ih => rw [mayL_no (hk (k + 1) (by omega)), ih]
  obtain ⟨m, hm⟩ : ∃ m, l.length = m + 1 := ⟨l.length - 1, by omega⟩
  rw [hm]
  exact this m
section
variable {A : List Bool} {E : List Ed} {T : List (List UInt8)} {M : List Mg} {s : Int}
/-- The mask at a state. -/
def msL (A : List Bool) (E : List Ed) (T : List (List UInt8)) (s : Int) : List Bool := msF (mkB T.length (myF (mF A E) (nA A) T s))
theorem msL_len : (msL A E T s).length = T.length := by unfold msL; rw [msF_len, mkB_len]
theorem bind_end (h0 : chE A E = 0) {l : List UInt8} (hs : wkF (mF A E) 0 l = s) (hs0 : 0 ≤ s) (hT : 0 < T.length) (h : (msL A E T s).getD 0 false = true) : acF A E l = true ∨ (mayL (msL A E T s) T.length).length = 1 := by
  unfold msL at h ⊢
  rcases ms_true h with h1 | ⟨_, h1⟩
  · refine .inl ?_
    rw [mkB_get hT] at h1
    unfold myF at h1
    rw [if_pos rfl, Bool.and_eq_true] at h1
    unfold acF
    rw [decide_eq_true h0, hs, decide_eq_true hs0, h1.2]
    rfl
  · refine .inr ?_
    have := ms_only (by rw [mkB_len]; exact hT) h1
    rw [mkB_len] at this
    rw [this]
    rfl
theorem bind_next {x : Nat} (hx : 0 < x) (hT : x < T.length) (h : (msL A E T s).getD x false = true) : wkF (mF A E) s (gT T x) ≠ -1 ∧ (lvL (mF A E) (nA A)).getD (wkF (mF A E) s (gT T x)).toNat false = true := by
  unfold msL at h
  rcases ms_true h with h1 | ⟨h1, _⟩
  · rw [mkB_get hT] at h1
    unfold myF at h1
    rw [if_neg (by omega), Bool.and_eq_true] at h1
    exact ⟨of_decide_eq_true h1.1, h1.2⟩
  · omega
end
theorem intInfo2 : (Try.prog.info? 3).map (fun i => (i.zero, i.size, i.bytes)) = some (some (zV 0), 1, 8) := by kernel_rfl
theorem push_int {W wr : World} {v : Value} {xs : List Int} {j : Nat} (x : Int) (ho : wr.ownsRow W.heap.size 3 1 v j (xs.map zV)) (hF : Fresh W wr) (hl : j < 2000000) :
    ∃ so c X', (Builtin.append_ #[58, 58] 58 #[v, .slice (some ⟨wr.heap.size, 0, none⟩) 1 1]).run Try.prog (wr.alloc (.cells #[zV x] 3)) = .ok (.slice so (j + 1) c) X' ∧ X'.ownsRow W.heap.size 3 1 (.slice so (j + 1) c) (j + 1) ((xs ++ [x]).map zV) ∧ Fresh W X' ∧ Kept (fun b => v.ownBlock = some b) wr X' := by
  obtain ⟨i0, hi0, hz0, hz1, hz2⟩ := info_parts intInfo2
  have hY : (wr.alloc (.cells #[zV x] 3)).ownsRow W.heap.size 3 1 v j (xs.map zV) := owns_kept ho ((Kept.refl (fun _ => False) wr).alloc _) (fun _ _ e => e)
  obtain ⟨v', w', hrun, ho2, hg, _, hb⟩ := run_append_own_at (P := Try.prog) (wr.alloc (.cells #[zV x] 3)) W.heap.size 58 58 3 i0 _ 1 8 Try.underlying58 hi0 hz0 hz1 hz2 rfl (by omega) _ _ _ hY ⟨wr.heap.size, 0, none⟩ 1 1 [zV x] rfl
    (fun q u hq => cell_one_new wr (zV x) 3 q u hq) (fun u hu => by simp at hu; rcases hu with rfl; rfl) (by unfold maxLen; omega) (by omega) (by simp; have := hF.size; omega)
  obtain ⟨so, c, rfl⟩ := ownsRow_shape ho2
  have hk : Kept (fun b => v.ownBlock = some b) wr w' := ((Kept.refl (fun b => v.ownBlock = some b) wr).alloc _).grown hg (fun q _ e => e)
  refine ⟨so, c, w', hrun, by rw [List.map_append]; exact ho2, hF.trans hk (fun i hi e => ?_), hk⟩
  have := own_any ho i e
  omega
/-- The places that may follow, being gathered in a row of its own. -/
def MyI (W : World) (L : List Bool) (v : Value) (k : Nat) (wr : World) : Prop := wr.ownsRow W.heap.size 3 1 v (mayL L k).length ((mayL L k).map zV) ∧ Fresh W wr
theorem MyI.start {W : World} {L : List Bool} : MyI W L (.slice (some ⟨W.heap.size, 0, none⟩) 0 0) 0 (W.alloc (.cells #[] 3)) := ⟨own_empty W _ (Nat.le_refl _) _, (Kept.refl _ W).alloc _⟩
theorem MyI.no {W wr : World} {L : List Bool} {v : Value} {k : Nat} (h : MyI W L v k wr) (hk : L.getD k false = false) : MyI W L v (k + 1) wr := by
  unfold MyI
  rw [mayL_no hk]
  exact h
theorem MyI.yes {W wr : World} {L : List Bool} {v : Value} {k : Nat} (h : MyI W L v k wr) (hk : L.getD k false = true) (hl : k < 1000000) :
    ∃ so c X', (Builtin.append_ #[58, 58] 58 #[v, .slice (some ⟨wr.heap.size, 0, none⟩) 1 1]).run Try.prog (wr.alloc (.cells #[zV (k : Int)] 3)) = .ok (.slice so ((mayL L k).length + 1) c) X' ∧ MyI W L (.slice so ((mayL L k).length + 1) c) (k + 1) X' ∧ (mayL L (k + 1)).length = (mayL L k).length + 1 := by
  obtain ⟨so, c, X', hr, ho, hf, _⟩ := push_int (k : Int) h.1 h.2 (by have := mayL_le L k; omega)
  have e : (mayL L (k + 1)).length = (mayL L k).length + 1 := by rw [mayL_yes hk, List.length_append]; rfl
  refine ⟨so, c, X', hr, ⟨?_, hf⟩, e⟩
  rw [mayL_yes hk, List.length_append]
  exact ho
end Go.Proofs.Ytdponkpgokncdaa
