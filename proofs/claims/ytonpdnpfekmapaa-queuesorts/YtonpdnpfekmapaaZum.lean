/-
  A run is cut in two.
-/
import Derived.Test.YtonpdnpfekmapaaZul
import Derived.Lib.SlicesDelete
namespace Go.Proofs.Ytonpdnpfekmapaa.SI
open Go.RowKit Go.Lib

/-- A row whose end was stored to, cut ahead of it. -/
theorem own_cut {w : World} {T : TypeId} {g n cap m : Nat} {cs zs : List Value} (h : w.ownsRow 0 T 1 (.slice (some ⟨g, 0, none⟩) n cap) n cs) (hm : m + zs.length ≤ n) :
    (w.setCells g m zs).ownsRow 0 T 1 (.slice (some ⟨g, 0, none⟩) m cap) m (cs.take m) := by
  obtain ⟨hl, h2⟩ := h
  rcases h2 with ⟨e, _⟩ | ⟨g', cap', cur, hv, hb, hh, hnc, hcm, hsz, htk⟩
  · cases e
  injection hv with e1 _ e3
  injection e1 with e1
  injection e1 with e1
  subst e1
  subst e3
  rw [Nat.mul_one] at hl hsz htk
  have h3 := heap_setCells zs m w cur.toList (by rw [Array.toArray_toList]; exact hh) (by have hcl : cur.toList.length = cur.size := Array.length_toList; omega)
  refine ⟨by rw [List.length_take]; omega, .inr ⟨g, cap, _, rfl, hb, h3, by omega, hcm, ?_, ?_⟩⟩
  · simp; omega
  · rw [Nat.mul_one, List.toList_toArray, List.append_assoc, List.take_append_of_le_length (by rw [List.length_take, Array.length_toList]; omega), List.take_take, Nat.min_self, ← htk, List.take_take, Nat.min_eq_left (by omega)]
section
variable {w w' : World} {qb N : Nat} {lv : Value} {M tk ar : Nat}
/-- A run more. -/
theorem LnM.more {A B : List Run} {s : Run} {lv' : Value} (h : LnM w lv (A ++ B)) (hq : QB w qb N lv M tk ar) (hk : Kept (fun k => k = qb ∨ lv.ownBlock = some k) w w')
    (hown : w'.ownsRow 0 173 1 lv' (A ++ s :: B).length ((A ++ s :: B).map Run.v)) (hrun : w'.ownsRow 0 108 1 s.v s.els.length (s.els.map pV)) (hne : s.els ≠ [])
    (hb : ∀ r ∈ A ++ B, r.v.ownBlock ≠ s.v.ownBlock) (hel : ∀ x ∈ s.els, ElAt w' x) : LnM w' lv' (A ++ s :: B) := by
  obtain ⟨o1, o2⟩ := h.others hq (rb := none) (fun k e => by cases e) (hk.mono (fun k _ e => by rcases e with e | e; exact .inl e; exact .inr (.inl e)))
  have hnn : ∀ r ∈ A ++ B, r.v.ownBlock ≠ none := fun r hr e => by
    obtain ⟨g, cap, hv, _⟩ := h.runAt hr
    rw [hv] at e
    cases e
  have hnd := List.pairwise_append.1 h.nd
  have hmem : ∀ r ∈ A ++ s :: B, r = s ∨ r ∈ A ++ B := fun r hr => by
    rcases List.mem_append.1 hr with hr | hr
    · exact .inr (List.mem_append_left _ hr)
    · rcases List.mem_cons.1 hr with rfl | hr
      · exact .inl rfl
      · exact .inr (List.mem_append_right _ hr)
  refine ⟨hown, fun r hr => ?_, fun r hr => ?_, ?_, fun r hr => ?_⟩
  · rcases hmem r hr with rfl | hr
    · exact hrun
    · exact o1 r hr (hnn r hr)
  · rcases hmem r hr with rfl | hr
    · exact hne
    · exact h.ne r hr
  · exact List.pairwise_append.2 ⟨hnd.1, List.pairwise_cons.2 ⟨fun t ht e => hb t (List.mem_append_right _ ht) e.symm, hnd.2.1⟩, fun r hr t ht => by
      rcases List.mem_cons.1 ht with rfl | ht
      · exact hb r (List.mem_append_left _ hr)
      · exact hnd.2.2 r hr t ht⟩
  · rcases hmem r hr with rfl | hr
    · exact hel
    · exact o2 r hr
end

theorem LnM.fresh {w w' : World} {lv : Value} {R : List Run} (h : LnM w lv R) (hF : Fresh w w') : LnM w' lv R :=
  ⟨owns_kept h.own hF (fun _ _ e => e), fun r hr => owns_kept (h.run r hr) hF (fun _ _ e => e), h.ne, h.nd, fun r hr x hx => (h.el r hr x hx).kept hF (fun e => e)⟩
theorem cut_end {w w1 W2 W3 W5 : World} {qb N : Nat} {lv : Value} {M tk ar : Nat} {R1 R2 : List Run} {r : Run} {g cap g2 cap2 g3 cap3 g5 cap5 m n : Nat} (hq : QB w qb N lv M tk ar) (h : LnM w lv (R1 ++ r :: R2)) (hlv : lv = .slice (some ⟨g, 0, none⟩) (R1 ++ r :: R2).length cap) (hv : r.v = .slice (some ⟨g2, 0, none⟩) r.els.length cap2)
    (hn : n = r.els.length) (hm : 1 ≤ m ∧ m < n) (hF1 : Fresh w w1) (hO1 : w1.ownsRow 0 108 1 (.slice (some ⟨g3, 0, none⟩) (n - m) cap3) (n - m) ((r.els.drop m).map pV)) (hg3 : w.heap.size ≤ g3)
    (hk2 : Kept (fun k => k = g2) w1 W2) (hR2 : W2.ownsRow 0 108 1 (.slice (some ⟨g2, 0, none⟩) m cap2) m ((r.els.take m).map pV)) (hk3 : Kept (fun k => k = g) W2 W3) (hW3 : W3.heap = (W2.setCell ⟨g, R1.length, none⟩ (.slice (some ⟨g2, 0, none⟩) m cap2)).heap)
    (h5 : W5.ownsRow 0 173 1 (.slice (some ⟨g5, 0, none⟩) (R1.length + R2.length + 2) cap5) (R1.length + R2.length + 2) (R1.map Run.v ++ (.slice (some ⟨g2, 0, none⟩) m cap2) :: (.slice (some ⟨g3, 0, none⟩) (n - m) cap3) :: R2.map Run.v))
    (hk5 : Kept (fun k => k = g) (W3.alloc (.cells #[.slice (some ⟨g3, 0, none⟩) (n - m) cap3] 173)) W5) (hg5 : g = g5 ∨ w.heap.size ≤ g5) :
    LnPost w qb N lv M tk ar (R1 ++ r :: R2) (flat (R1 ++ r :: R2)) (W5.setCell ⟨qb, 1, none⟩ (.slice (some ⟨g5, 0, none⟩) (R1.length + R2.length + 2) cap5)) := by
  have hrm : r ∈ R1 ++ r :: R2 := by simp
  have hgq : g ≠ qb := fun e => hq.not_lf h (.inl (by rw [hlv, e]; rfl))
  have hg2q : g2 ≠ qb := fun e => hq.not_lf h (.inr ⟨r, hrm, by rw [hv, e]; rfl⟩)
  have hgg : g2 ≠ g := fun e => h.outer_not_run hrm (by rw [hv, hlv, e]; rfl)
  have hbg : g < w.heap.size := h.lf_lt (.inl (by rw [hlv]; rfl))
  have hbq : qb < w.heap.size := lt_of_heap hq
  have hb2 : g2 < w.heap.size := h.lf_lt (.inr ⟨r, hrm, by rw [hv]; rfl⟩)
  have hgl : ∀ k, k = g → lv.ownBlock = some k := fun k e => by rw [hlv, e]; rfl
  have hgr : ∀ k, k = g2 → r.v.ownBlock = some k := fun k e => by rw [hv, e]; rfl
  have k3 : Kept (fun k => k = g ∨ k = g2) w W3 := Kept.trans (Kept.trans (hF1.mono (fun k _ e => e.elim)) hk2 (fun k _ e => .inr e)) hk3 (fun k _ e => .inl e)
  have k3' : Kept (fun k => k = qb ∨ lv.ownBlock = some k ∨ r.v.ownBlock = some k) w W3 := k3.mono (fun k _ e => by rcases e with e | e; exact .inr (.inl (hgl k e)); exact .inr (.inr (hgr k e)))
  have hA : Fresh W3 (W3.alloc (.cells #[.slice (some ⟨g3, 0, none⟩) (n - m) cap3] 173)) := (Kept.refl _ _).alloc _
  have k5 : Kept (fun k => k = g ∨ k = g2) w W5 := Kept.trans (Kept.trans k3 hA (fun k _ e => e.elim)) hk5 (fun k _ e => .inl e)
  have k6 : Kept (fun k => k = qb ∨ lv.ownBlock = some k ∨ r.v.ownBlock = some k) w (W5.setCell ⟨qb, 1, none⟩ (.slice (some ⟨g5, 0, none⟩) (R1.length + R2.length + 2) cap5)) := by
    refine Kept.setCell (p := ⟨qb, 1, none⟩) (k5.mono (fun k _ e => ?_)) (fun _ => .inl rfl) _
    rcases e with e | e
    · exact .inr (.inl (hgl k e))
    · exact .inr (.inr (hgr k e))
  have hqW : ∀ {W : World}, Kept (fun k => k = g ∨ k = g2) w W → QB W qb N lv M tk ar := fun hk => hk.at hq (fun e => by rcases e with e | e; exact hgq e.symm; exact hg2q e.symm)
  obtain ⟨_, o6⟩ := h.others hq (rb := r.v.ownBlock) (fun k e => .inr ⟨r, hrm, e⟩) k6
  obtain ⟨_, o3⟩ := h.others hq (rb := r.v.ownBlock) (fun k e => .inr ⟨r, hrm, e⟩) k3'
  -- the run's first half
  have hown3 : W3.ownsRow 0 173 1 lv (R1 ++ r :: R2).length (R1.map Run.v ++ (.slice (some ⟨g2, 0, none⟩) m cap2) :: R2.map Run.v) := by
    have h7 := outer_kept h hlv hv hF1 hk2 (.slice (some ⟨g2, 0, none⟩) m cap2)
    unfold World.ownsRow at h7 ⊢
    rw [hW3]
    exact h7
  have hL3 : LnM W3 lv (R1 ++ ⟨.slice (some ⟨g2, 0, none⟩) m cap2, r.els.take m⟩ :: R2) := by
    refine h.swap hq _ k3' (by simpa using hown3) ?_ ?_ (.inl (by rw [hv]; rfl)) (fun x hx => o3 r hrm x (List.mem_of_mem_take hx))
    · show World.ownsRow _ 0 _ 1 _ (r.els.take m).length _
      rw [show (r.els.take m).length = m by rw [List.length_take]; omega]
      exact owns_kept hR2 hk3 (fun k hk e => hgg ((Option.some.inj hk).trans e))
    · intro e
      have := congrArg List.length e
      rw [List.length_take, List.length_nil] at this
      omega
  have hL4 := hL3.fresh hA
  have hq4 : QB (W3.alloc (.cells #[.slice (some ⟨g3, 0, none⟩) (n - m) cap3] 173)) qb N lv M tk ar := hA.at (hqW k3) (fun e => e)
  rw [show R1 ++ (⟨.slice (some ⟨g2, 0, none⟩) m cap2, r.els.take m⟩ : Run) :: R2 = (R1 ++ [⟨.slice (some ⟨g2, 0, none⟩) m cap2, r.els.take m⟩]) ++ R2 by simp] at hL4
  have hk46 : Kept (fun k => k = qb ∨ lv.ownBlock = some k) (W3.alloc (.cells #[.slice (some ⟨g3, 0, none⟩) (n - m) cap3] 173)) (W5.setCell ⟨qb, 1, none⟩ (.slice (some ⟨g5, 0, none⟩) (R1.length + R2.length + 2) cap5)) :=
    Kept.setCell (p := ⟨qb, 1, none⟩) (hk5.mono (fun k _ e => .inr (hgl k e))) (fun _ => .inl rfl) _
  have hkq : Kept (fun k => k = qb) W5 (W5.setCell ⟨qb, 1, none⟩ (.slice (some ⟨g5, 0, none⟩) (R1.length + R2.length + 2) cap5)) := (Kept.refl (fun k => k = qb) W5).setCell (p := ⟨qb, 1, none⟩) (fun _ => rfl) _
  have hL6 := hL4.more (s := ⟨.slice (some ⟨g3, 0, none⟩) (n - m) cap3, r.els.drop m⟩) (lv' := .slice (some ⟨g5, 0, none⟩) (R1.length + R2.length + 2) cap5) hq4 hk46
    (by
      have e1 : (R1 ++ [(⟨.slice (some ⟨g2, 0, none⟩) m cap2, r.els.take m⟩ : Run)] ++ (⟨.slice (some ⟨g3, 0, none⟩) (n - m) cap3, r.els.drop m⟩ : Run) :: R2).length = R1.length + R2.length + 2 := by simp; omega
      rw [e1]
      refine owns_kept ?_ hkq (fun k hk e => ?_)
      · simpa using h5
      · have e2 : g5 = k := Option.some.inj hk
        rcases hg5 with e3 | e3
        · exact hgq (e3.trans (e2.trans e))
        · omega)
    (by
      show World.ownsRow _ 0 _ 1 _ (r.els.drop m).length _
      rw [show (r.els.drop m).length = n - m by rw [List.length_drop, hn]]
      refine owns_kept (owns_kept (owns_kept (owns_kept (owns_kept hO1 hk2 ?_) hk3 ?_) hA (fun _ _ e => e)) hk5 ?_) hkq ?_
      all_goals
        intro k hk e
        have e2 : g3 = k := Option.some.inj hk
        omega)
    (fun e => by
      have := congrArg List.length e
      rw [List.length_drop, List.length_nil] at this
      omega)
    (fun s hs e => by
      obtain ⟨c, hc⟩ : ∃ c, s.v.ownBlock = some c ∧ c < w.heap.size := by
        rw [List.append_assoc] at hs
        rcases List.mem_append.1 hs with hs | hs
        · have hs' : s ∈ R1 ++ r :: R2 := List.mem_append_left _ hs
          obtain ⟨c, _, hc, _⟩ := h.runAt hs'
          exact ⟨c, by rw [hc]; rfl, h.lf_lt (.inr ⟨s, hs', by rw [hc]; rfl⟩)⟩
        · rcases List.mem_cons.1 hs with rfl | hs
          · exact ⟨g2, rfl, hb2⟩
          · have hs' : s ∈ R1 ++ r :: R2 := by simp [show s ∈ R2 from hs]
            obtain ⟨c, _, hc, _⟩ := h.runAt hs'
            exact ⟨c, by rw [hc]; rfl, h.lf_lt (.inr ⟨s, hs', by rw [hc]; rfl⟩)⟩
      rw [hc.1] at e
      have e2 : c = g3 := Option.some.inj e
      omega)
    (fun x hx => o6 r hrm x (List.mem_of_mem_drop hx))
  refine ⟨_, _, Lib.heap_setCell_same (hqW k5) _ (i := 1), hL6, ?_, k6.mono (fun k _ e => ?_), fun k hk => ?_⟩
  · have e7 : r.els = r.els.take m ++ r.els.drop m := (List.take_append_drop m r.els).symm
    simp only [flat, List.map_append, List.map_cons, List.map_nil, List.flatten_append, List.flatten_cons, List.flatten_nil, List.append_nil, List.append_assoc]
    conv => rhs; rw [e7]
    simp only [List.append_assoc]
  · rcases e with e | e | e
    · exact .inl e
    · exact .inr (.inl e)
    · exact .inr (.inr ⟨r, hrm, e⟩)
  · rcases hk with e | ⟨s, hs, e⟩
    · have e2 : g5 = k := Option.some.inj e
      rcases hg5 with e3 | e3
      · exact .inl (.inl (hgl k (by omega)))
      · exact .inr (by omega)
    · have hs2 : s ∈ R1 ∨ s = ⟨.slice (some ⟨g2, 0, none⟩) m cap2, r.els.take m⟩ ∨ s = ⟨.slice (some ⟨g3, 0, none⟩) (n - m) cap3, r.els.drop m⟩ ∨ s ∈ R2 := by simpa [or_assoc] using hs
      rcases hs2 with hs | rfl | rfl | hs
      · exact .inl (.inr ⟨s, List.mem_append_left _ hs, e⟩)
      · exact .inl (.inr ⟨r, hrm, hgr k (Option.some.inj e).symm⟩)
      · exact .inr (by have e2 : g3 = k := Option.some.inj e; omega)
      · exact .inl (.inr ⟨s, by simp [hs], e⟩)

set_option maxHeartbeats 2000000 in
set_option maxRecDepth 100000 in
theorem cut_any (qb N : Nat) (lv : Value) (M tk ar : Nat) (R1 R2 : List Run) (r : Run) (w : World) (hq : QB w qb N lv M tk ar) (h : LnM w lv (R1 ++ r :: R2)) (hl : (flat (R1 ++ r :: R2)).length ≤ 65537) (h1r : 1 < r.els.length) :
    Calls Try.prog 116 #[.pointer (some ⟨qb, 1, none⟩), nV R1.length] w fun q w' => q = .returned (.tuple #[]) ∧ LnPost w qb N lv M tk ar (R1 ++ r :: R2) (flat (R1 ++ r :: R2)) w' := by
  have hrm : r ∈ R1 ++ r :: R2 := by simp
  obtain ⟨g, cap, hlv, h1, h2, h3⟩ := h.outer (i := R1.length) (by simp)
  rw [show (R1 ++ r :: R2)[R1.length]'(by simp) = r by simp] at h3
  obtain ⟨g2, cap2, hv, h4, h5, hc⟩ := h.runAt hrm
  have hlen : (R1 ++ r :: R2).length = R1.length + R2.length + 1 := by simp; omega
  have hrl := runs_len h.ne
  have hrn := flat_len hrm
  have hgq : g ≠ qb := fun e => hq.not_lf h (.inl (by rw [hlv, e]; rfl))
  have hg2q : g2 ≠ qb := fun e => hq.not_lf h (.inr ⟨r, hrm, by rw [hv, e]; rfl⟩)
  have hgg : g2 ≠ g := fun e => h.outer_not_run hrm (by rw [hv, hlv, e]; rfl)
  obtain ⟨n, hn⟩ : ∃ n, n = r.els.length := ⟨_, rfl⟩
  obtain ⟨m, hm⟩ : ∃ m, m = n / 2 := ⟨_, rfl⟩
  have hm1 : 1 ≤ m ∧ m < n := by omega
  have HCl : Hid (Unit → _) := fun (_ : Unit) => cloneE_any g2 m (n - m) (cap2 - m) ((r.els.drop m).map pV) w (by rw [List.length_map, List.length_drop, hn]) (by omega)
    (fun j u hj => by
      rw [List.getElem?_map, List.getElem?_drop] at hj
      have hj' : m + j < r.els.length := by
        rcases Nat.lt_or_ge (m + j) r.els.length with e | e
        · exact e
        · rw [List.getElem?_eq_none e] at hj; cases hj
      rw [List.getElem?_eq_getElem hj'] at hj
      obtain rfl := Option.some.inj hj
      exact hc (m + j) hj') (pV_one _)
  obtain ⟨c0, c1, c2, c3, c4⟩ := hq.cells
  have HQ := show Hid _ from hq
  have HL := show Hid _ from h
  have HLV := show Hid _ from hlv
  have HV := show Hid _ from hv
  have hbg : g < w.heap.size := h.lf_lt (.inl (by rw [hlv]; rfl))
  have hbq : qb < w.heap.size := lt_of_heap hq
  have hb2 : g2 < w.heap.size := h.lf_lt (.inr ⟨r, hrm, by rw [hv]; rfl⟩)
  have HF : Hid (w.frozen? ⟨g, R1.length, none⟩ = false ∧ w.frozen? ⟨qb, 1, none⟩ = false ∧ ∀ j, w.frozen? ⟨g2, j, none⟩ = false) := by
    obtain ⟨cur, hcur⟩ := own_type h.own (k := g) (by rw [hlv]; rfl)
    obtain ⟨cur2, hcur2⟩ := own_type (h.run r hrm) (k := g2) (by rw [hv]; rfl)
    exact ⟨Lib.frozen_of_heap hcur _, Lib.frozen_of_heap hq _, fun j => Lib.frozen_of_heap hcur2 _⟩
  have HC2 : Hid (∀ j, j < n → (w.cell? ⟨g2, j, none⟩).isSome = true) := fun j hj => by rw [hc j (by omega)]; rfl
  obtain ⟨i, hi⟩ : ∃ i, i = R1.length := ⟨_, rfl⟩
  obtain ⟨k, hk⟩ : ∃ k, k = R1.length + R2.length + 1 := ⟨_, rfl⟩
  rw [hlv, hlen, ← hk] at c1
  rw [hv, ← hn, ← hi] at h3
  rw [← hn] at h4
  rw [← hi] at HF
  have HN : Hid (i = R1.length ∧ k = R1.length + R2.length + 1 ∧ n = r.els.length) := ⟨hi, hk, hn⟩
  have hj0 : (0 : Int) ≤ (i : Int) := by omega
  have hj1 : (i : Int) < (k : Int) := by omega
  have hk6 : k ≤ 65537 := by omega
  have hn6 : n ≤ 65537 := by omega
  have hj3 : IntKind.i64.wrap ((i : Int) + 1) = (i : Int) + 1 := by rw [IntKind.wrap_i64]; omega
  have hd2 : (n : Int).tdiv 2 = (m : Int) := by rw [Int.tdiv_eq_ediv_of_nonneg (by omega)]; omega
  have hd3 : (n : Int) / 2 = (m : Int) := by omega
  have hmc : ¬ cap2 = m := by omega
  have hm3 : (m : Int) ≤ (n : Int) := by omega
  have hm4 : (m : Int) ≤ (cap2 : Int) := by omega
  rw [← hi]
  clear hq h hl h1r c0 c2 c3 c4 hc hv hlv hrm hi hk hn hlen hrl hrn hm h1
  go_enter Try.func116, Try.ntmps116
  go_wp2_with fail
  refine (HCl.out ()).mono ?_
  rintro q w1 ⟨bv, rfl, hO1, hnil, hF1⟩
  obtain ⟨g3, cap3, hbv, hc3, hc4, _⟩ := own_some (owns_base hO1) (by omega)
  have hg3 : w.heap.size ≤ g3 := by
    rcases hO1.2 with ⟨e, _⟩ | ⟨g', _, _, e, hge, _⟩
    · exact absurd e hnil
    · rw [hbv] at e
      injection e with e1
      injection e1 with e1
      injection e1 with e1
      omega
  subst hbv
  have hcl : ∀ ty, (Builtin.clear_ #[173] ty #[.slice (some ⟨g2, m, none⟩) (n - m) (cap2 - m)]).run Try.prog w1 = .ok (.tuple #[]) (w1.setCells g2 m (List.replicate (n - m) (.pointer none))) := fun ty =>
    Lib.run_clear_slice w1 _ _ ty _ Try.underlying173 Try.zeroValue108 rfl rfl g2 m _ _ (by omega) (fun t ht => by rw [hF1.cell (p := ⟨g2, m + t, none⟩) hb2 (fun e => e)]; exact HC2.out _ (by omega)) (fun t ht => by rw [hF1.frozen (p := ⟨g2, m + t, none⟩) hb2 (fun e => e)]; exact HF.out.2.2 _)
  have hkC := kept_setCells g2 (List.replicate (n - m) (.pointer none)) m w1
  have hs1 : w.heap.size ≤ w1.heap.size := hF1.size
  have d1 : (w1.setCells g2 m (List.replicate (n - m) (.pointer none))).cell? ⟨qb, 1, none⟩ = some (.slice (some ⟨g, 0, none⟩) k cap) := (hkC.cell (p := ⟨qb, 1, none⟩) (Nat.lt_of_lt_of_le hbq hs1) (fun e => hg2q e.symm)).trans ((hF1.cell (p := ⟨qb, 1, none⟩) hbq (fun e => e)).trans c1)
  have d2 : (w1.setCells g2 m (List.replicate (n - m) (.pointer none))).cell? ⟨g, i, none⟩ = some (.slice (some ⟨g2, 0, none⟩) n cap2) := (hkC.cell (p := ⟨g, i, none⟩) (Nat.lt_of_lt_of_le hbg hs1) (fun e => hgg e.symm)).trans ((hF1.cell (p := ⟨g, i, none⟩) hbg (fun e => e)).trans h3)
  have d3 : (w1.setCells g2 m (List.replicate (n - m) (.pointer none))).frozen? ⟨g, i, none⟩ = false := (hkC.frozen (p := ⟨g, i, none⟩) (Nat.lt_of_lt_of_le hbg hs1) (fun e => hgg e.symm)).trans ((hF1.frozen (p := ⟨g, i, none⟩) hbg (fun e => e)).trans HF.out.1)
  have HK2 : Hid (Fresh w w1 ∧ w1.ownsRow 0 108 1 (.slice (some ⟨g3, 0, none⟩) (n - m) cap3) (n - m) ((r.els.drop m).map pV) ∧ Kept (fun k => k = g2) w1 (w1.setCells g2 m (List.replicate (n - m) (.pointer none)))) := ⟨hF1, owns_base hO1, hkC⟩
  have HR2 : Hid ((w1.setCells g2 m (List.replicate (n - m) (.pointer none))).ownsRow 0 108 1 (.slice (some ⟨g2, 0, none⟩) m cap2) m ((r.els.take m).map pV)) := by
    have h7 := HL.out.run r (by simp)
    rw [HV.out, ← HN.out.2.2] at h7
    have h8 := own_cut (m := m) (zs := List.replicate (n - m) (.pointer none)) (owns_kept h7 hF1 (fun _ _ e => e)) (by rw [List.length_replicate]; omega)
    rw [← List.map_take] at h8
    exact h8
  have hs2 : w1.heap.size ≤ (w1.setCells g2 m (List.replicate (n - m) (.pointer none))).heap.size := hkC.size
  clear HCl hnil HC2 hO1 hF1 hkC c1 h3
  generalize w1.setCells g2 m (List.replicate (n - m) (.pointer none)) = W2 at *
  go_wp2_with fail
  go_region
  have hgW : g < W2.heap.size := by omega
  have hqW : qb < W2.heap.size := by omega
  have hk3 := (Kept.refl (fun k => k = g) W2).setCell (p := ⟨g, i, none⟩) (fun _ => rfl) (.slice (some ⟨g2, 0, none⟩) m cap2)
  have e1 : (W2.setCell ⟨g, i, none⟩ (.slice (some ⟨g2, 0, none⟩) m cap2)).drew.cell? ⟨qb, 1, none⟩ = some (.slice (some ⟨g, 0, none⟩) k cap) := (hk3.cell (p := ⟨qb, 1, none⟩) hqW (fun e => hgq e.symm)).trans d1
  have HK3 : Hid (Kept (fun k => k = g) W2 (W2.setCell ⟨g, i, none⟩ (.slice (some ⟨g2, 0, none⟩) m cap2)).drew ∧ (W2.setCell ⟨g, i, none⟩ (.slice (some ⟨g2, 0, none⟩) m cap2)).drew.heap = (W2.setCell ⟨g, i, none⟩ (.slice (some ⟨g2, 0, none⟩) m cap2)).heap) := ⟨hk3.drew, rfl⟩
  clear d1 d2 d3 hcl hk3
  generalize (W2.setCell ⟨g, i, none⟩ (.slice (some ⟨g2, 0, none⟩) m cap2)).drew = W3 at *
  have HI : Hid (Unit → _) := fun (_ : Unit) => insR_any g k cap (i + 1) (R1.map Run.v ++ (.slice (some ⟨g2, 0, none⟩) m cap2) :: R2.map Run.v) (.slice (some ⟨g3, 0, none⟩) (n - m) cap3) W3.heap.size (W3.alloc (.cells #[.slice (some ⟨g3, 0, none⟩) (n - m) cap3] 173))
    (by
      have h7 := outer_kept HL.out HLV.out HV.out HK2.out.1 HK2.out.2.2 (.slice (some ⟨g2, 0, none⟩) m cap2)
      rw [HLV.out, show (R1 ++ r :: R2).length = k by rw [HN.out.2.1]; simp; omega, ← HN.out.1] at h7
      refine owns_kept ?_ (show Fresh W3 _ from (Kept.refl _ _).alloc _) (fun _ _ e => e)
      unfold World.ownsRow at h7 ⊢
      rw [HK3.out.2]
      exact h7)
    (by omega) (by omega) rfl
    (fun v hv => by
      rcases List.mem_append.1 hv with hv | hv
      · exact rV_one HL.out v (by rw [List.map_append]; exact List.mem_append_left _ hv)
      · rcases List.mem_cons.1 hv with rfl | hv
        · rfl
        · exact rV_one HL.out v (by rw [List.map_append, List.map_cons]; simp [hv]))
    (heap_alloc_new W3 _) (by have := HK3.out.1.size; omega)
  rw [show nV (i + 1) = .int .i64 ((i : Int) + 1) from rfl] at HI
  have hW3q : qb < (W3.alloc (.cells #[.slice (some ⟨g3, 0, none⟩) (n - m) cap3] 173)).heap.size := by have := HK3.out.1.size; simp; omega
  have hW3z : w.heap.size ≤ (W3.alloc (.cells #[.slice (some ⟨g3, 0, none⟩) (n - m) cap3] 173)).heap.size := by have := HK3.out.1.size; simp; omega
  have hfz3 : W3.frozen? ⟨qb, 1, none⟩ = false := by
    rw [HK3.out.1.frozen (p := ⟨qb, 1, none⟩) hqW (fun e => hgq e.symm), HK2.out.2.2.frozen (p := ⟨qb, 1, none⟩) (Nat.lt_of_lt_of_le hbq HK2.out.1.size) (fun e => hg2q e.symm), HK2.out.1.frozen (p := ⟨qb, 1, none⟩) hbq (fun e => e)]
    exact HF.out.2.1
  have hqW3 : qb < W3.heap.size := by have := HK3.out.1.size; omega
  have hA3 : Fresh W3 (W3.alloc (.cells #[.slice (some ⟨g3, 0, none⟩) (n - m) cap3] 173)) := (Kept.refl _ _).alloc _
  have HA3 := show Hid _ from hA3
  clear hA3
  go_wp2_with fail
  refine (HI.out ()).mono ?_
  rintro q5 W5 ⟨g5, cap5, rfl, h5, hk5, hg5⟩
  have hk5' : Kept (fun k => k = g) (W3.alloc (.cells #[.slice (some ⟨g3, 0, none⟩) (n - m) cap3] 173)) W5 := hk5.mono (fun k _ e => (Option.some.inj e).symm)
  have f1 := (hk5'.cell (p := ⟨qb, 1, none⟩) hW3q (fun e => hgq e.symm)).trans ((HA3.out.cell (p := ⟨qb, 1, none⟩) hqW3 (fun e => e)).trans e1)
  have f2 := (hk5'.frozen (p := ⟨qb, 1, none⟩) hW3q (fun e => hgq e.symm)).trans ((HA3.out.frozen (p := ⟨qb, 1, none⟩) hqW3 (fun e => e)).trans hfz3)
  have HEND : Hid (LnPost w qb N lv M tk ar (R1 ++ r :: R2) (flat (R1 ++ r :: R2)) (W5.setCell ⟨qb, 1, none⟩ (.slice (some ⟨g5, 0, none⟩) (k + 1) cap5))) := by
    have hkk : k + 1 = R1.length + R2.length + 2 := by have := HN.out; omega
    have e6 : (R1.map Run.v ++ (.slice (some ⟨g2, 0, none⟩) m cap2) :: R2.map Run.v).take (i + 1) ++ (.slice (some ⟨g3, 0, none⟩) (n - m) cap3) :: (R1.map Run.v ++ (.slice (some ⟨g2, 0, none⟩) m cap2) :: R2.map Run.v).drop (i + 1) = R1.map Run.v ++ (.slice (some ⟨g2, 0, none⟩) m cap2) :: (.slice (some ⟨g3, 0, none⟩) (n - m) cap3) :: R2.map Run.v := by
      rw [show R1.map Run.v ++ (.slice (some ⟨g2, 0, none⟩) m cap2) :: R2.map Run.v = (R1.map Run.v ++ [.slice (some ⟨g2, 0, none⟩) m cap2]) ++ R2.map Run.v by simp, List.take_left' (by simp [HN.out.1]), List.drop_left' (by simp [HN.out.1])]
      simp
    rw [e6, hkk] at h5
    rw [hkk]
    refine cut_end HQ.out HL.out HLV.out HV.out HN.out.2.2 hm1 HK2.out.1 HK2.out.2.1 hg3 HK2.out.2.2 HR2.out HK3.out.1 (by rw [← HN.out.1]; exact HK3.out.2) h5 hk5' ?_
    rcases hg5 with e | e
    · exact .inl (Option.some.inj e)
    · exact .inr (by omega)
  clear HI h5 hk5 hk5' hg5 HK2 HR2 HK3 HL HQ HLV HV HA3 HF HN
  go_wp2
  go_end0
  exact ⟨rfl, HEND.out⟩
end Go.Proofs.Ytonpdnpfekmapaa.SI
