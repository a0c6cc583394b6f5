/-
  A line of runs turns: what stays.
-/
import Derived.Test.YtonpdnpfekmapaaQuj
namespace Go.Proofs.Ytonpdnpfekmapaa
open Go.RowKit Go.Lib

/-- What became of a line: its elements are L now. -/
def LnPost (w : World) (qb N : Nat) (lv : Value) (M tk ar : Nat) (R : List Run) (L : List El) (w' : World) : Prop :=
  ∃ lv' R', QB w' qb N lv' M tk ar ∧ LnM w' lv' R' ∧ flat R' = L ∧ Kept (fun k => k = qb ∨ LF lv R k) w w' ∧ ∀ k, LF lv' R' k → LF lv R k ∨ w.heap.size ≤ k

theorem cells_type {w : World} {k : Nat} {c1 c2 : Array Value} {t1 t2 : TypeId} {f1 f2 : Nat × Nat} (h1 : w.heap[k]? = some (.cells c1 t1 f1)) (h2 : w.heap[k]? = some (.cells c2 t2 f2)) : t1 = t2 := by
  rw [h1] at h2
  simp only [Option.some.injEq, Obj.cells.injEq] at h2
  exact h2.2.1

section
variable {w w' : World} {qb N : Nat} {lv : Value} {M tk ar : Nat} {R : List Run}

theorem LnM.lf_type (h : LnM w lv R) {k : Nat} (hk : LF lv R k) : ∃ c t, w.heap[k]? = some (.cells c t (0, 0)) ∧ (t = 162 ∨ t = 130) := by
  rcases hk with e | ⟨r, hr, e⟩
  · obtain ⟨cur, hc⟩ := own_type h.own e
    exact ⟨cur, _, hc, .inl rfl⟩
  · obtain ⟨cur, hc⟩ := own_type (h.run r hr) e
    exact ⟨cur, _, hc, .inr rfl⟩
theorem LnM.lf_lt (h : LnM w lv R) {k : Nat} (hk : LF lv R k) : k < w.heap.size := by
  obtain ⟨c, t, hc, _⟩ := h.lf_type hk
  exact lt_of_heap hc
theorem QB.not_lf (hq : QB w qb N lv M tk ar) (h : LnM w lv R) : ¬ LF lv R qb := fun hk => by
  obtain ⟨c, t, hc, ht⟩ := h.lf_type hk
  have := cells_type hq hc
  rcases ht with rfl | rfl <;> exact absurd this (by decide)
theorem ElAt.not_lf {x : El} (hx : ElAt w x) (h : LnM w lv R) : ¬ LF lv R x.b := fun hk => by
  obtain ⟨c, t, hc, ht⟩ := h.lf_type hk
  have := cells_type hx hc
  rcases ht with rfl | rfl <;> exact absurd this (by decide)
theorem ElAt.not_qb {x : El} (hx : ElAt w x) (hq : QB w qb N lv M tk ar) : x.b ≠ qb := fun hk => by
  rw [← hk] at hq
  exact absurd (cells_type hx hq) (by decide)
theorem LnM.outer_not_run (h : LnM w lv R) {s : Run} (hs : s ∈ R) : s.v.ownBlock ≠ lv.ownBlock := fun e => by
  obtain ⟨g, cap, hv, _⟩ := h.runAt hs
  rw [hv] at e
  simp only [Value.ownBlock] at e
  obtain ⟨c1, h1⟩ := own_type (h.run s hs) (k := g) (by rw [hv]; rfl)
  obtain ⟨c2, h2⟩ := own_type h.own e.symm
  exact absurd (cells_type h1 h2) (by decide)
/-- What a turn of the queue's block, the row of the runs, and one run leaves. -/
theorem LnM.others (h : LnM w lv R) (hq : QB w qb N lv M tk ar) {rb : Option Nat} (hrb : ∀ k, rb = some k → LF lv R k) (hk : Kept (fun k => k = qb ∨ lv.ownBlock = some k ∨ rb = some k) w w') :
    (∀ s ∈ R, s.v.ownBlock ≠ rb → w'.ownsRow 0 130 1 s.v s.els.length (s.els.map pV)) ∧ (∀ s ∈ R, ∀ x ∈ s.els, ElAt w' x) := by
  constructor
  · intro s hs hne
    refine owns_kept (h.run s hs) hk (fun g hg hS => ?_)
    rcases hS with e | e | e
    · subst e
      exact hq.not_lf h (.inr ⟨s, hs, hg⟩)
    · exact h.outer_not_run hs (hg.trans e.symm)
    · exact hne (hg.trans e.symm)
  · intro s hs x hx
    have hx1 := h.el s hs x hx
    refine hx1.kept hk (fun hS => ?_)
    rcases hS with e | e | e
    · exact hx1.not_qb hq e
    · exact hx1.not_lf h (.inl e)
    · exact hx1.not_lf h (hrb _ e)
/-- A run has other elements, in the same row or a new one. -/
theorem LnM.swap {R1 R2 : List Run} {r : Run} (h : LnM w lv (R1 ++ r :: R2)) (hq : QB w qb N lv M tk ar) (r' : Run) (hk : Kept (fun k => k = qb ∨ lv.ownBlock = some k ∨ r.v.ownBlock = some k) w w')
    (hown : w'.ownsRow 0 162 1 lv (R1 ++ r' :: R2).length ((R1 ++ r' :: R2).map Run.v)) (hrun : w'.ownsRow 0 130 1 r'.v r'.els.length (r'.els.map pV)) (hne : r'.els ≠ [])
    (hb : r'.v.ownBlock = r.v.ownBlock ∨ ∀ k, r'.v.ownBlock = some k → w.heap.size ≤ k) (hel : ∀ x ∈ r'.els, ElAt w' x) : LnM w' lv (R1 ++ r' :: R2) := by
  have hrm : r ∈ R1 ++ r :: R2 := by simp
  obtain ⟨g0, _, hv0, _⟩ := h.runAt hrm
  obtain ⟨o1, o2⟩ := h.others hq (rb := r.v.ownBlock) (fun k e => .inr ⟨r, hrm, e⟩) hk
  have hnd := List.pairwise_append.1 h.nd
  have hnd2 := List.pairwise_cons.1 hnd.2.1
  have hd1 : ∀ s ∈ R1, s.v.ownBlock ≠ r.v.ownBlock := fun s hs => hnd.2.2 s hs r (by simp)
  have hd2 : ∀ s ∈ R2, r.v.ownBlock ≠ s.v.ownBlock := fun s hs => hnd2.1 s hs
  have hfr : ∀ s ∈ R1 ++ r :: R2, s.v.ownBlock ≠ r.v.ownBlock → s.v.ownBlock ≠ r'.v.ownBlock := fun s hs hn e => by
    rcases hb with e1 | e1
    · exact hn (e.trans e1)
    · obtain ⟨g, _, hv, _⟩ := h.runAt hs
      have hsg : s.v.ownBlock = some g := by rw [hv]; rfl
      have h1 := e1 g (e.symm.trans hsg)
      have h2 := h.lf_lt (.inr ⟨s, hs, hsg⟩)
      omega
  refine ⟨hown, fun s hs => ?_, fun s hs => ?_, ?_, fun s hs => ?_⟩
  · rcases List.mem_append.1 hs with hs | hs
    · exact o1 s (List.mem_append_left _ hs) (hd1 s hs)
    · rcases List.mem_cons.1 hs with rfl | hs
      · exact hrun
      · exact o1 s (by simp [hs]) (fun e => hd2 s hs e.symm)
  · rcases List.mem_append.1 hs with hs | hs
    · exact h.ne s (List.mem_append_left _ hs)
    · rcases List.mem_cons.1 hs with rfl | hs
      · exact hne
      · exact h.ne s (by simp [hs])
  · refine List.pairwise_append.2 ⟨hnd.1, List.pairwise_cons.2 ⟨fun s hs => ?_, hnd2.2⟩, fun s hs t ht => ?_⟩
    · exact fun e => hfr s (by simp [hs]) (fun e => hd2 s hs e.symm) e.symm
    · rcases List.mem_cons.1 ht with rfl | ht
      · exact hfr s (List.mem_append_left _ hs) (hd1 s hs)
      · exact hnd.2.2 s hs t (by simp [ht])
  · rcases List.mem_append.1 hs with hs | hs
    · exact o2 s (List.mem_append_left _ hs)
    · rcases List.mem_cons.1 hs with rfl | hs
      · exact hel
      · exact o2 s (by simp [hs])
/-- A run is gone. -/
theorem LnM.less {R1 R2 : List Run} {r : Run} {lv' : Value} (h : LnM w lv (R1 ++ r :: R2)) (hq : QB w qb N lv M tk ar) (hk : Kept (fun k => k = qb ∨ lv.ownBlock = some k ∨ r.v.ownBlock = some k) w w')
    (hown : w'.ownsRow 0 162 1 lv' (R1 ++ R2).length ((R1 ++ R2).map Run.v)) : LnM w' lv' (R1 ++ R2) := by
  have hrm : r ∈ R1 ++ r :: R2 := by simp
  obtain ⟨o1, o2⟩ := h.others hq (rb := r.v.ownBlock) (fun k e => .inr ⟨r, hrm, e⟩) hk
  have hnd := List.pairwise_append.1 h.nd
  have hnd2 := List.pairwise_cons.1 hnd.2.1
  have hsub : ∀ s ∈ R1 ++ R2, s ∈ R1 ++ r :: R2 ∧ s.v.ownBlock ≠ r.v.ownBlock := fun s hs => by
    rcases List.mem_append.1 hs with hs | hs
    · exact ⟨List.mem_append_left _ hs, hnd.2.2 s hs r (by simp)⟩
    · exact ⟨by simp [hs], fun e => hnd2.1 s hs e.symm⟩
  exact ⟨hown, fun s hs => o1 s (hsub s hs).1 (hsub s hs).2, fun s hs => h.ne s (hsub s hs).1, List.pairwise_append.2 ⟨hnd.1, hnd2.2, fun s hs t ht => hnd.2.2 s hs t (by simp [ht])⟩, fun s hs => o2 s (hsub s hs).1⟩
/-- A cell of a row is stored to. -/
theorem own_set {T : TypeId} {g n cap i : Nat} {cs : List Value} {x : Value} (h : w.ownsRow 0 T 1 (.slice (some ⟨g, 0, none⟩) n cap) n cs) : (w.setCell ⟨g, i, none⟩ x).ownsRow 0 T 1 (.slice (some ⟨g, 0, none⟩) n cap) n (cs.set i x) := by
  obtain ⟨hl, h2⟩ := h
  rcases h2 with ⟨e, _⟩ | ⟨g', cap', cur, hv, hb, hh, hnc, hcm, hsz, htk⟩
  · cases e
  injection hv with e1 _ e3
  injection e1 with e1
  injection e1 with e1
  subst e1
  subst e3
  refine ⟨by rw [List.length_set]; exact hl, .inr ⟨g, cap, _, rfl, hb, Lib.heap_setCell_same hh x (i := i), hnc, hcm, by simpa using hsz, ?_⟩⟩
  rw [Array.toList_setIfInBounds, ← htk, List.take_set]
end
end Go.Proofs.Ytonpdnpfekmapaa
