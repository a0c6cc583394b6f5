/-
  An element is put into a line.
-/
import Derived.Test.YtonpdnpfekmapaaZum
namespace Go.Proofs.Ytonpdnpfekmapaa.SI
open Go.RowKit Go.Lib

/-- What became of a line behind a put: e stands where it belongs. -/
def PutPost (w : World) (qb N : Nat) (lv : Value) (M tk ar : Nat) (R : List Run) (e : El) (w' : World) : Prop :=
  ∃ A B, flat R = A ++ B ∧ Sp A B e ∧ LnPost w qb N lv M tk ar R (A ++ e :: B) w'

theorem LnPost.trans {w w1 w2 : World} {qb N : Nat} {lv lv1 : Value} {M tk ar : Nat} {R R1 : List Run} {L : List El} (hk : Kept (fun k => k = qb ∨ LF lv R k) w w1) (hf : ∀ k, LF lv1 R1 k → LF lv R k ∨ w.heap.size ≤ k) (h : LnPost w1 qb N lv1 M tk ar R1 L w2) : LnPost w qb N lv M tk ar R L w2 := by
  obtain ⟨lv', R', a1, a2, a3, a4, a5⟩ := h
  refine ⟨lv', R', a1, a2, a3, hk.trans a4 (fun k hk1 e => ?_), fun k e => ?_⟩
  · rcases e with e | e
    · exact .inl e
    · rcases hf k e with e | e
      · exact .inr e
      · omega
  · rcases a5 k e with e | e
    · exact hf k e
    · exact .inr (by have := hk.size; omega)

/-- The first element of a line. -/
theorem put_first {w : World} {qb N : Nat} {lv : Value} {M tk ar : Nat} {R : List Run} {e : El} (hq : QB w qb N lv M tk ar) (he : ElAt w e) :
    LnPost w qb N lv M tk ar R [e] (((w.alloc (.cells #[pV e] 108)).alloc (.cells #[.slice (some ⟨w.heap.size, 0, none⟩) 1 1] 173)).setCell ⟨qb, 1, none⟩ (.slice (some ⟨w.heap.size + 1, 0, none⟩) 1 1)) := by
  have hbq : qb < w.heap.size := lt_of_heap hq
  have hbe : e.b < w.heap.size := lt_of_heap he
  have hF : Fresh w ((w.alloc (.cells #[pV e] 108)).alloc (.cells #[.slice (some ⟨w.heap.size, 0, none⟩) 1 1] 173)) := ((Kept.refl _ _).alloc _).alloc _
  have h1 : ((w.alloc (.cells #[pV e] 108)).alloc (.cells #[.slice (some ⟨w.heap.size, 0, none⟩) 1 1] 173)).heap[w.heap.size]? = some (.cells #[pV e] 108 (0, 0)) :=
    (show Fresh (w.alloc (.cells #[pV e] 108)) _ from (Kept.refl _ _).alloc _).at (heap_alloc_new w _) (fun e => e)
  have h2 : ((w.alloc (.cells #[pV e] 108)).alloc (.cells #[.slice (some ⟨w.heap.size, 0, none⟩) 1 1] 173)).heap[w.heap.size + 1]? = some (.cells #[.slice (some ⟨w.heap.size, 0, none⟩) 1 1] 173 (0, 0)) := by
    have := heap_alloc_new (w.alloc (.cells #[pV e] 108)) (.cells #[.slice (some ⟨w.heap.size, 0, none⟩) 1 1] 173)
    simpa using this
  generalize (w.alloc (.cells #[pV e] 108)).alloc (.cells #[.slice (some ⟨w.heap.size, 0, none⟩) 1 1] 173) = W at *
  have hk : Kept (fun k => k = qb) W (W.setCell ⟨qb, 1, none⟩ (.slice (some ⟨w.heap.size + 1, 0, none⟩) 1 1)) := (Kept.refl (fun k => k = qb) W).setCell (p := ⟨qb, 1, none⟩) (fun _ => rfl) _
  refine ⟨.slice (some ⟨w.heap.size + 1, 0, none⟩) 1 1, [⟨.slice (some ⟨w.heap.size, 0, none⟩) 1 1, [e]⟩], Lib.heap_setCell_same (hF.at hq (fun e => e)) _ (i := 1), ⟨?_, ?_, ?_, ?_, ?_⟩, rfl, ?_, ?_⟩
  · exact ⟨rfl, .inr ⟨_, 1, _, rfl, Nat.zero_le _, hk.at h2 (fun e => by omega), Nat.le_refl _, by unfold maxLen; omega, rfl, rfl⟩⟩
  · intro r hr
    obtain rfl := List.mem_singleton.1 hr
    exact ⟨rfl, .inr ⟨_, 1, _, rfl, Nat.zero_le _, hk.at h1 (fun e => by omega), Nat.le_refl _, by unfold maxLen; omega, rfl, rfl⟩⟩
  · intro r hr
    obtain rfl := List.mem_singleton.1 hr
    simp
  · exact List.pairwise_singleton _ _
  · intro r hr x hx
    obtain rfl := List.mem_singleton.1 hr
    obtain rfl := List.mem_singleton.1 hx
    exact (ElAt.kept he hF (fun e => e)).kept hk (fun e1 => he.not_qb hq e1)
  · exact Kept.trans (hF.mono (fun k _ e => e.elim)) hk (fun k _ e => .inl e)
  · intro k hk1
    rcases hk1 with e1 | ⟨s, hs, e1⟩
    · exact .inr (by have : w.heap.size + 1 = k := Option.some.inj e1; omega)
    · obtain rfl := List.mem_singleton.1 hs
      exact .inr (by have : w.heap.size = k := Option.some.inj e1; omega)
/-- An element more in a run. -/
theorem put_end {w W X : World} {qb N : Nat} {lv : Value} {M tk ar : Nat} {R1 R2 : List Run} {r : Run} {g cap g2 cap2 g5 cap5 n p : Nat} {e : El} (hq : QB w qb N lv M tk ar) (h : LnM w lv (R1 ++ r :: R2)) (hlv : lv = .slice (some ⟨g, 0, none⟩) (R1 ++ r :: R2).length cap) (hv : r.v = .slice (some ⟨g2, 0, none⟩) r.els.length cap2) (hn : n = r.els.length)
    (he : ElAt w e) (hK0 : Fresh w W) (hX1 : X.ownsRow 0 108 1 (.slice (some ⟨g5, 0, none⟩) (n + 1) cap5) (n + 1) ((r.els.take p ++ e :: r.els.drop p).map pV)) (hX2 : Kept (fun k => k = g2) W X) (hg5 : g2 = g5 ∨ w.heap.size ≤ g5) :
    QB (X.setCell ⟨g, R1.length, none⟩ (.slice (some ⟨g5, 0, none⟩) (n + 1) cap5)) qb N lv M tk ar ∧ LnM (X.setCell ⟨g, R1.length, none⟩ (.slice (some ⟨g5, 0, none⟩) (n + 1) cap5)) lv (R1 ++ ⟨.slice (some ⟨g5, 0, none⟩) (n + 1) cap5, r.els.take p ++ e :: r.els.drop p⟩ :: R2) ∧
      Kept (fun k => LF lv (R1 ++ r :: R2) k) w (X.setCell ⟨g, R1.length, none⟩ (.slice (some ⟨g5, 0, none⟩) (n + 1) cap5)) ∧ ∀ k, LF lv (R1 ++ ⟨.slice (some ⟨g5, 0, none⟩) (n + 1) cap5, r.els.take p ++ e :: r.els.drop p⟩ :: R2) k → LF lv (R1 ++ r :: R2) k ∨ w.heap.size ≤ k := by
  have hrm : r ∈ R1 ++ r :: R2 := by simp
  have hgg : g2 ≠ g := fun e => h.outer_not_run hrm (by rw [hv, hlv, e]; rfl)
  have hbg : g < w.heap.size := h.lf_lt (.inl (by rw [hlv]; rfl))
  have hk := turn_kept (qb := qb) hlv hv hK0 hX2 (.slice (some ⟨g5, 0, none⟩) (n + 1) cap5) R1.length
  have hk2 : Kept (fun k => LF lv (R1 ++ r :: R2) k) w (X.setCell ⟨g, R1.length, none⟩ (.slice (some ⟨g5, 0, none⟩) (n + 1) cap5)) := by
    refine (turn_kept (qb := g) hlv hv hK0 hX2 _ R1.length).mono (fun k _ e => ?_)
    rcases e with e | e | e
    · exact .inl (by rw [hlv, e]; rfl)
    · exact .inl e
    · exact .inr ⟨r, hrm, e⟩
  have ho := outer_kept h hlv hv hK0 hX2 (.slice (some ⟨g5, 0, none⟩) (n + 1) cap5)
  obtain ⟨_, o2⟩ := h.others hq (rb := r.v.ownBlock) (fun k e => .inr ⟨r, hrm, e⟩) hk
  have hl5 : (r.els.take p ++ e :: r.els.drop p).length = n + 1 := by
    rw [List.length_append, List.length_cons, List.length_take, List.length_drop]
    omega
  refine ⟨qb_kept hq h hk2 (fun _ e => e), h.swap hq _ hk (by simpa using ho) ?_ (by simp) ?_ (fun x hx => ?_), hk2, fun k hk3 => ?_⟩
  · show World.ownsRow _ 0 _ 1 _ (r.els.take p ++ e :: r.els.drop p).length _
    rw [hl5]
    refine owns_kept hX1 ((Kept.refl (fun k => k = g) X).setCell (p := ⟨g, R1.length, none⟩) (fun _ => rfl) _) (fun k hk e => ?_)
    have e2 : g5 = k := Option.some.inj hk
    rcases hg5 with e3 | e3
    · exact hgg (e3.trans (e2.trans e))
    · omega
  · rcases hg5 with e3 | e3
    · exact .inl (by rw [hv, e3]; rfl)
    · exact .inr (fun k e => by have e2 : g5 = k := Option.some.inj e; omega)
  · have hx' : x ∈ r.els ∨ x = e := by
      rcases List.mem_append.1 hx with hx | hx
      · exact .inl (List.mem_of_mem_take hx)
      · rcases List.mem_cons.1 hx with rfl | hx
        · exact .inr rfl
        · exact .inl (List.mem_of_mem_drop hx)
    rcases hx' with hx' | rfl
    · exact o2 r hrm x hx'
    · exact he.kept hk2 (fun e1 => he.not_lf h e1)
  · rcases hk3 with e | ⟨s, hs, e⟩
    · exact .inl (.inl e)
    · rcases List.mem_append.1 hs with hs | hs
      · exact .inl (.inr ⟨s, List.mem_append_left _ hs, e⟩)
      · rcases List.mem_cons.1 hs with rfl | hs
        · have e2 : g5 = k := Option.some.inj e
          rcases hg5 with e3 | e3
          · exact .inl (.inr ⟨r, hrm, by rw [hv, e3, e2]; rfl⟩)
          · exact .inr (by omega)
        · exact .inl (.inr ⟨s, by simp [hs], e⟩)
end Go.Proofs.Ytonpdnpfekmapaa.SI
