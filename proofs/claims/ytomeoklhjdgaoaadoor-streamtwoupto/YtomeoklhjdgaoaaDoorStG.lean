/-
  What is held back of a text; a stream goes on from what was held back as from all.
-/
import Derived.Test.YtomeoklhjdgaoaaDoorStF
namespace Go.Proofs.YtomeoklhjdgaoaaDoor
open Go.Lib

/-- May a stop text, or a character, go on where a text ends? -/
def cnd (T : List (List UInt8)) (e : List UInt8) : Bool := decide (e ≠ []) && (hfL e || T.any (fun x => decide (e.length < x.length ∧ x.take e.length = e)))
theorem cnd_iff {T : List (List UInt8)} {e : List UInt8} : cnd T e = true ↔ e ≠ [] ∧ (hfL e = true ∨ ∃ j, j < T.length ∧ e.length < (tX T j).length ∧ (tX T j).take e.length = e) := by
  unfold cnd
  rw [Bool.and_eq_true, decide_eq_true_iff, Bool.or_eq_true, List.any_eq_true]
  refine and_congr_right fun _ => or_congr_right ?_
  constructor
  · rintro ⟨x, hx, h⟩
    obtain ⟨j, hj, rfl⟩ := List.getElem_of_mem hx
    refine ⟨j, hj, ?_⟩
    have e : tX T j = T[j] := by rw [tX, List.getD_eq_getElem?_getD, List.getElem?_eq_getElem hj]; rfl
    rw [e]
    exact of_decide_eq_true h
  · rintro ⟨j, hj, h⟩
    have e : tX T j = T[j] := by rw [tX, List.getD_eq_getElem?_getD, List.getElem?_eq_getElem hj]; rfl
    rw [e] at h
    exact ⟨T[j], List.getElem_mem hj, decide_eq_true h⟩
theorem cnd_pre {T : List (List UInt8)} {a b : List UInt8} (h : cnd T (a ++ b) = true) (ha : a ≠ []) : cnd T a = true := by
  obtain ⟨_, h2⟩ := cnd_iff.1 h
  refine cnd_iff.2 ⟨ha, ?_⟩
  rcases h2 with h2 | ⟨j, hj, h3, h4⟩
  · exact .inl (hfL_pre h2 ha)
  · rw [List.length_append] at h3 h4
    refine .inr ⟨j, hj, by omega, ?_⟩
    have := congrArg (List.take a.length) h4
    rw [List.take_take, Nat.min_eq_left (by omega), List.take_left] at this
    exact this
/-- Stop texts that may be. -/
def GdT (T : List (List UInt8)) : Prop := ∀ j, j < T.length → tX T j ≠ [] ∧ (tX T j).length ≤ 64 ∧ clL (tX T j) = tX T j
theorem GdT.ne {T : List (List UInt8)} (h : GdT T) : ∀ j, j < T.length → tX T j ≠ [] := fun j hj => (h j hj).1
theorem cnd_len {T : List (List UInt8)} {e : List UInt8} (hT : GdT T) (h : cnd T e = true) : e.length ≤ 63 := by
  obtain ⟨_, h2⟩ := cnd_iff.1 h
  rcases h2 with h2 | ⟨j, hj, h3, _⟩
  · have := hfL_len h2; omega
  · have := (hT j hj).2.1; omega
theorem cnd_ld {T : List (List UInt8)} {e : List UInt8} (hT : GdT T) (h : cnd T e = true) : Ld e := by
  obtain ⟨h1, h2⟩ := cnd_iff.1 h
  rcases h2 with h2 | ⟨j, hj, h3, h4⟩
  · exact hfL_ld h2
  · have h5 := (clL_own (hT j hj).1).1 (hT j hj).2.2
    have h6 := chW_ld h5.1
    rw [← List.take_append_drop e.length (tX T j), h4] at h6
    exact h6.pre
/-- The longest end at which one may go on. -/
def hldF (T : List (List UInt8)) : List UInt8 → List UInt8
  | [] => []
  | c :: r => if cnd T (c :: r) = true then c :: r else hldF T r
theorem hldF_at {T : List (List UInt8)} : ∀ (t : List UInt8) (k : Nat), k ≤ t.length → (∀ j, j < k → cnd T (t.drop j) = false) → (k = t.length ∨ cnd T (t.drop k) = true) → hldF T t = t.drop k
  | [], k, _, _, _ => by rw [List.drop_nil]; rfl
  | c :: r, 0, _, _, h => by
    rcases h with h | h
    · cases h
    · rw [List.drop_zero] at h ⊢
      unfold hldF
      rw [if_pos h]
  | c :: r, k + 1, hk, hj, h => by
    have h0 := hj 0 (by omega)
    rw [List.drop_zero] at h0
    unfold hldF
    rw [if_neg (by rw [h0]; decide), List.drop_succ_cons]
    refine hldF_at r k (by simp at hk; omega) (fun j hj2 => ?_) (h.imp (fun e => by simp at e; omega) (fun e => ?_))
    · have := hj (j + 1) (by omega)
      rwa [List.drop_succ_cons] at this
    · rwa [List.drop_succ_cons] at e
theorem hldF_spec {T : List (List UInt8)} : ∀ (t : List UInt8), ∃ k, k ≤ t.length ∧ hldF T t = t.drop k ∧ (∀ j, j < k → cnd T (t.drop j) = false) ∧ (k = t.length ∨ cnd T (t.drop k) = true)
  | [] => ⟨0, Nat.le_refl _, rfl, fun j hj => absurd hj (Nat.not_lt_zero _), .inl rfl⟩
  | c :: r => by
    by_cases h : cnd T (c :: r) = true
    · refine ⟨0, Nat.zero_le _, ?_, fun j hj => absurd hj (Nat.not_lt_zero _), .inr h⟩
      unfold hldF
      rw [if_pos h]; rfl
    · obtain ⟨k, hk, he, hj, hc⟩ := hldF_spec r
      refine ⟨k + 1, by simp; omega, ?_, fun j hj2 => ?_, hc.imp (fun e => by simp; omega) (fun e => by rwa [List.drop_succ_cons])⟩
      · unfold hldF
        rw [if_neg h, he, List.drop_succ_cons]
      · cases j with
        | zero => rw [List.drop_zero]; simpa using h
        | succ j => rw [List.drop_succ_cons]; exact hj j (by omega)
theorem hldF_app {T : List (List UInt8)} (b : List UInt8) : ∀ (a : List UInt8), hldF T (a ++ b) = hldF T (hldF T a ++ b)
  | [] => rfl
  | c :: r => by
    by_cases h : cnd T (c :: r) = true
    · have : hldF T (c :: r) = c :: r := by unfold hldF; rw [if_pos h]
      rw [this]
    · have h1 : hldF T (c :: r) = hldF T r := by conv => lhs; unfold hldF; rw [if_neg h]
      have h2 : hldF T (c :: r ++ b) = hldF T (r ++ b) := by
        rw [List.cons_append]
        conv => lhs; unfold hldF
        rw [if_neg (show ¬ cnd T (c :: (r ++ b)) = true from fun e => h (cnd_pre (a := c :: r) (b := b) e (by simp)))]
      rw [h1, h2, hldF_app b r]
theorem hldF_le (T : List (List UInt8)) (t : List UInt8) : (hldF T t).length ≤ t.length := by
  obtain ⟨k, _, he, _⟩ := hldF_spec (T := T) t
  rw [he, List.length_drop]
  omega
theorem hldF_63 {T : List (List UInt8)} (hT : GdT T) (t : List UInt8) : (hldF T t).length ≤ 63 := by
  obtain ⟨k, hk, he, _, hc⟩ := hldF_spec (T := T) t
  rw [he]
  rcases hc with hc | hc
  · rw [List.length_drop]; omega
  · exact cnd_len hT hc
/-- What has gone out of a text that is not cut. -/
def goF (T : List (List UInt8)) (t : List UInt8) : List UInt8 := t.take (t.length - (hldF T t).length)
theorem go_join (T : List (List UInt8)) (t : List UInt8) : goF T t ++ hldF T t = t := by
  obtain ⟨k, hk, he, _⟩ := hldF_spec (T := T) t
  unfold goF
  rw [he, List.length_drop, show t.length - (t.length - k) = k by omega, List.take_append_drop]
theorem hldF_bord {T : List (List UInt8)} (hT : GdT T) (t b : List UInt8) : NoHf (goF T t) ∨ Ld (hldF T t ++ b) := by
  obtain ⟨k, hk, he, hj, hc⟩ := hldF_spec (T := T) t
  by_cases h0 : k = t.length
  · left
    have e : goF T t = t := by unfold goF; rw [he, h0]; simp
    rw [e]
    intro j hj2
    have := hj j (by omega)
    cases hh : hfL (t.drop j) with
    | false => rfl
    | true => exact absurd (cnd_iff.2 ⟨hfL_ne hh, .inl hh⟩) (by rw [this]; decide)
  · right
    have hc := hc.resolve_left h0
    have hd : t.drop k ≠ [] := (cnd_iff.1 hc).1
    rw [he]
    rcases cnd_ld hT hc with h | h
    · exact absurd h hd
    · refine .inr ?_
      rw [bN_app (List.length_pos_iff.2 hd)]
      exact h
/-- The clean form of what has gone out, and of a beginning of what lies behind. -/
theorem cl_go {T : List (List UInt8)} (hT : GdT T) (t b : List UInt8) (n : Nat) : clL (goF T t ++ (hldF T t ++ b).take n) = clL (goF T t) ++ clL ((hldF T t ++ b).take n) := by
  refine clL_join ((hldF_bord hT t b).imp id (fun h => ?_))
  rw [← List.take_append_drop n (hldF T t ++ b)] at h
  exact h.pre
/-- Behind what was held back stop texts stand just where they stand behind all. -/
theorem en_shift {T : List (List UInt8)} {t b : List UInt8} (hn : NoCut T t) {j : Nat} (hj : j < T.length) (m : Nat) : En (goF T t ++ (hldF T t ++ b)) (tX T j) ((goF T t).length + m) ↔ En (hldF T t ++ b) (tX T j) m := by
  obtain ⟨k, hk, he, hjc, hc⟩ := hldF_spec (T := T) t
  have hg : (goF T t).length = k := by unfold goF; rw [he, List.length_take, List.length_drop]; omega
  by_cases hm : (tX T j).length ≤ m
  · exact en_right hm
  · constructor
    · intro h
      exfalso
      have hl := h.1
      have hjoin : goF T t ++ (hldF T t ++ b) = t ++ b := by rw [← List.append_assoc, go_join]
      rw [hjoin, hg] at h
      by_cases hle : k + m ≤ t.length
      · exact bst_none.1 (hn (k + m)) j hj ((en_left hle).1 h)
      · have hs : k + m - (tX T j).length < k := by omega
        have h1 := hjc _ hs
        generalize hst : k + m - (tX T j).length = st at *
        refine Bool.false_ne_true (h1.symm.trans (cnd_iff.2 ⟨?_, .inr ⟨j, hj, ?_, ?_⟩⟩))
        · intro e
          have := congrArg List.length e
          rw [List.length_drop] at this
          simp at this
          omega
        · rw [List.length_drop]; omega
        · have h2 := h.2
          rw [hst, List.drop_append_of_le_length (by omega)] at h2
          have h3 := congrArg (List.take (t.drop st).length) h2
          rw [List.take_take, Nat.min_eq_left (by rw [List.length_drop]; omega), List.take_left] at h3
          exact h3.symm
    · intro h
      exact absurd h.1 hm
theorem bst_shift {T : List (List UInt8)} {t b : List UInt8} (hn : NoCut T t) (m : Nat) : bst T (goF T t ++ (hldF T t ++ b)) ((goF T t).length + m) T.length = bst T (hldF T t ++ b) m T.length :=
  bst_cong (fun _ hj => en_shift hn hj m)
theorem bst_early {T : List (List UInt8)} {t b : List UInt8} (hn : NoCut T t) (m : Nat) (hm : m ≤ t.length) : bst T (goF T t ++ (hldF T t ++ b)) m T.length = none := by
  rw [← List.append_assoc, go_join, ← hn m]
  exact bst_cong (fun _ _ => en_left hm)
/-- A stream goes on from what was held back as from all. -/
theorem cut_shift {T : List (List UInt8)} {t b : List UInt8} (hT : GdT T) (hn : NoCut T t) : cuM T (t ++ b) = cuM T (hldF T t ++ b) ∧ (cuM T (t ++ b) = -1 → NoCut T (t ++ b)) ∧ (cuM T (t ++ b) ≠ -1 → ∃ n, cuS T (t ++ b) = goF T t ++ (hldF T t ++ b).take n ∧ cuS T (hldF T t ++ b) = (hldF T t ++ b).take n) := by
  have hj : goF T t ++ (hldF T t ++ b) = t ++ b := by rw [← List.append_assoc, go_join]
  have hgl : (goF T t).length ≤ t.length := by unfold goF; rw [List.length_take]; omega
  cases hc : cuN T (hldF T t ++ b) with
  | none =>
    have h1 := (cuN_none hT.ne).1 hc
    have h2 : NoCut T (t ++ b) := fun n => by
      by_cases h : n ≤ t.length
      · have := bst_early (b := b) hn n h
        rwa [hj] at this
      · have := bst_shift (b := b) hn (n - (goF T t).length)
        rw [hj, show (goF T t).length + (n - (goF T t).length) = n by omega] at this
        rw [this]
        exact h1 _
    have h3 : cuM T (t ++ b) = -1 := by unfold cuM; rw [(cuN_none hT.ne).2 h2]
    have h4 : cuM T (hldF T t ++ b) = -1 := by unfold cuM; rw [hc]
    exact ⟨h3.trans h4.symm, fun _ => h2, fun e => absurd h3 e⟩
  | some e =>
    obtain ⟨e1, e2, e3⟩ := f1st_some hc
    obtain ⟨p, hp⟩ := Option.isSome_iff_exists.1 e2
    have hlt : ∀ n, n < e → bst T (hldF T t ++ b) n T.length = none := fun n hn2 => by simpa using e3 n hn2
    obtain ⟨_, a2, a3⟩ := cuN_of hT.ne hp hlt
    have hp2 := bst_shift (b := b) hn e
    rw [hj, hp] at hp2
    have hlt2 : ∀ n, n < (goF T t).length + e → bst T (t ++ b) n T.length = none := fun n hn2 => by
      by_cases h : n ≤ t.length
      · have := bst_early (b := b) hn n h
        rwa [hj] at this
      · have := bst_shift (b := b) hn (n - (goF T t).length)
        rw [hj, show (goF T t).length + (n - (goF T t).length) = n by omega] at this
        rw [this]
        exact hlt _ (by omega)
    obtain ⟨_, b2, b3⟩ := cuN_of hT.ne hp2 hlt2
    refine ⟨by rw [a2, b2], fun h => by rw [b2] at h; omega, fun _ => ⟨e - (tX T p).length, ?_, a3⟩⟩
    have hen := (bst_some hp).2.1
    rw [b3, ← hj, List.take_append, List.take_of_length_le (by omega), show (goF T t).length + e - (tX T p).length - (goF T t).length = e - (tX T p).length by omega]
/-- What is held back in the end. -/
theorem hold_shift {T : List (List UInt8)} (t b : List UInt8) : hldF T (t ++ b) = hldF T (hldF T t ++ b) := hldF_app b t
theorem go_shift {T : List (List UInt8)} (t b : List UInt8) : goF T (t ++ b) = goF T t ++ goF T (hldF T t ++ b) := by
  have h1 := go_join T (t ++ b)
  have h2 := go_join T (hldF T t ++ b)
  have h3 := go_join T t
  rw [hold_shift] at h1
  refine List.append_cancel_right (bs := hldF T (hldF T t ++ b)) ?_
  rw [h1, List.append_assoc, h2, ← List.append_assoc, h3]
theorem cl_next {T : List (List UInt8)} (hT : GdT T) (t b : List UInt8) : clL (goF T (t ++ b)) = clL (goF T t) ++ clL (goF T (hldF T t ++ b)) := by
  rw [go_shift]
  exact cl_go hT t b _
theorem cl_end {T : List (List UInt8)} (hT : GdT T) (t : List UInt8) : clL t = clL (goF T t) ++ clL (hldF T t) := by
  have := cl_go hT t [] (hldF T t).length
  rw [List.append_nil, List.take_length, go_join] at this
  exact this
end Go.Proofs.YtomeoklhjdgaoaaDoor
