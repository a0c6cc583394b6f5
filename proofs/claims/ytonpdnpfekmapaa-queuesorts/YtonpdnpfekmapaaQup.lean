/-
  An element is put into a line: the walk.
-/
import Derived.Test.YtonpdnpfekmapaaQuo
import Derived.Deep.RegionWith
namespace Go.Proofs.Ytonpdnpfekmapaa
open Go.RowKit Go.Lib

set_option maxHeartbeats 2000000 in
set_option maxRecDepth 100000 in
theorem put0_any (qb N : Nat) (lv : Value) (M tk ar : Nat) (e : El) (w : World) (hq : QB w qb N lv M tk ar) (h : LnM w lv []) (he : ElAt w e) :
    Calls Try.prog 77 #[.pointer (some ⟨qb, 1, none⟩), pV e] w fun q w' => q = .returned (.tuple #[]) ∧ PutPost w qb N lv M tk ar [] e w' := by
  obtain ⟨ao, cap, hlv⟩ : ∃ ao cap, lv = .slice ao 0 cap := by
    rcases h.own.2 with ⟨e, _⟩ | ⟨g, cap, cur, e, _⟩
    · exact ⟨_, _, e⟩
    · exact ⟨_, _, e⟩
  have HP : Hid (PutPost w qb N lv M tk ar [] e _) := ⟨[], [], rfl, ⟨fun x hx => by simp at hx, fun x hx => by simp at hx⟩, put_first hq he⟩
  obtain ⟨c0, c1, c2, c3, c4⟩ := hq.cells
  have hf := hq.frozen 1
  have hbq : qb < w.heap.size := lt_of_heap hq
  rw [World.setCell_alloc_past _ _ _ _ (by simp; omega), World.setCell_alloc_past _ _ _ _ hbq] at HP
  have hF1 : Fresh w (w.alloc (.cells #[pV e] 130)) := (Kept.refl _ _).alloc _
  have hF : Fresh w ((w.alloc (.cells #[pV e] 130)).alloc (.cells #[.slice (some ⟨w.heap.size, 0, none⟩) 1 1] 162)) := hF1.alloc _
  have c1' := (hF.cell (p := ⟨qb, 1, none⟩) hbq (fun e => e)).trans c1
  have f1' := (hF.frozen (p := ⟨qb, 1, none⟩) hbq (fun e => e)).trans hf
  rw [hlv] at c1 c1'
  clear hq h he c0 c2 c3 c4 hlv hF hF1
  go_enter Try.func77, Try.ntmps77
  go_wp2
  first | go_end0 | (refine bodyPost_ret (results_none rfl _ _ _) rfl ?_)
  exact ⟨rfl, HP.out⟩

section
variable {w W w' : World} {qb N : Nat} {lv : Value} {M tk ar : Nat} {R1 R2 : List Run} {r : Run} {e : El} {p : Nat} {v : Value}
theorem put_done (hsp : Sp ((R1.map Run.els).flatten ++ r.els.take p) (r.els.drop p ++ (R2.map Run.els).flatten) e) (b1 : QB W qb N lv M tk ar) (b2 : LnM W lv (R1 ++ ⟨v, r.els.take p ++ e :: r.els.drop p⟩ :: R2)) (b3 : Kept (fun k => LF lv (R1 ++ r :: R2) k) w W)
    (b4 : ∀ k, LF lv (R1 ++ ⟨v, r.els.take p ++ e :: r.els.drop p⟩ :: R2) k → LF lv (R1 ++ r :: R2) k ∨ w.heap.size ≤ k) : PutPost w qb N lv M tk ar (R1 ++ r :: R2) e W := by
  have e7 : r.els = r.els.take p ++ r.els.drop p := (List.take_append_drop p r.els).symm
  refine ⟨_, _, ?_, hsp, lv, _, b1, b2, ?_, b3.mono (fun k _ e => .inr e), b4⟩
  · simp only [flat, List.map_append, List.map_cons, List.flatten_append, List.flatten_cons, List.append_assoc]
    conv => lhs; rw [e7]
    simp only [List.append_assoc]
  · simp [flat]
theorem put_done2 (hsp : Sp ((R1.map Run.els).flatten ++ r.els.take p) (r.els.drop p ++ (R2.map Run.els).flatten) e) (b1 : QB W qb N lv M tk ar) (b2 : LnM W lv (R1 ++ ⟨v, r.els.take p ++ e :: r.els.drop p⟩ :: R2)) (b3 : Kept (fun k => LF lv (R1 ++ r :: R2) k) w W)
    (b4 : ∀ k, LF lv (R1 ++ ⟨v, r.els.take p ++ e :: r.els.drop p⟩ :: R2) k → LF lv (R1 ++ r :: R2) k ∨ w.heap.size ≤ k) (hp : LnPost W qb N lv M tk ar (R1 ++ ⟨v, r.els.take p ++ e :: r.els.drop p⟩ :: R2) (flat (R1 ++ ⟨v, r.els.take p ++ e :: r.els.drop p⟩ :: R2)) w') : PutPost w qb N lv M tk ar (R1 ++ r :: R2) e w' := by
  obtain ⟨A, B, q1, q2, q3⟩ := put_done hsp b1 b2 b3 b4
  have e1 : flat (R1 ++ ⟨v, r.els.take p ++ e :: r.els.drop p⟩ :: R2) = A ++ e :: B := by
    have e7 : r.els = r.els.take p ++ r.els.drop p := (List.take_append_drop p r.els).symm
    have hAB : A = (R1.map Run.els).flatten ++ r.els.take p ∧ B = r.els.drop p ++ (R2.map Run.els).flatten := by
      refine sp_one ?_ q2 hsp
      rw [← q1]
      simp only [flat, List.map_append, List.map_cons, List.flatten_append, List.flatten_cons, List.append_assoc]
      conv => lhs; rw [e7]
      simp only [List.append_assoc]
    rw [hAB.1, hAB.2]
    simp [flat]
  rw [e1] at hp
  exact ⟨A, B, q1, q2, LnPost.trans (b3.mono (fun k _ e => .inr e)) b4 hp⟩
end

set_option maxHeartbeats 4000000 in
set_option maxRecDepth 100000 in
theorem put1_any (qb N : Nat) (lv : Value) (M tk ar : Nat) (R1 R2 : List Run) (r : Run) (e : El) (w : World) (hq : QB w qb N lv M tk ar) (h : LnM w lv (R1 ++ r :: R2)) (hs : Sd (flat (R1 ++ r :: R2))) (hl : (flat (R1 ++ r :: R2)).length ≤ 65536) (he : ElAt w e)
    (hi0 : R1.length = min (rcut ((R1 ++ r :: R2).map Run.els) e) ((R1 ++ r :: R2).length - 1)) :
    Calls Try.prog 77 #[.pointer (some ⟨qb, 1, none⟩), pV e] w fun q w' => q = .returned (.tuple #[]) ∧ PutPost w qb N lv M tk ar (R1 ++ r :: R2) e w' := by
  have hrm : r ∈ R1 ++ r :: R2 := by simp
  have HR : Hid (∀ m, _) := fun m => runOf_any qb N lv M tk ar _ e (w.drewN m) (show QB (w.drewN m) _ _ _ _ _ _ from hq) (h.drewN m) hs (by simp) hl (he.drewN m)
  obtain ⟨g, cap, hlv, h1, h2, h3⟩ := h.outer (i := R1.length) (by simp)
  rw [show (R1 ++ r :: R2)[R1.length]'(by simp) = r by simp] at h3
  obtain ⟨g2, cap2, hv, h4, h5, hc⟩ := h.runAt hrm
  have hlen : (R1 ++ r :: R2).length = R1.length + R2.length + 1 := by simp; omega
  have hrl := runs_len h.ne
  have hrn := flat_len hrm
  have hgq : g ≠ qb := fun e => hq.not_lf h (.inl (by rw [hlv, e]; rfl))
  have hg2q : g2 ≠ qb := fun e => hq.not_lf h (.inr ⟨r, hrm, by rw [hv, e]; rfl⟩)
  have hgg : g2 ≠ g := fun e => h.outer_not_run hrm (by rw [hv, hlv, e]; rfl)
  have hbg : g < w.heap.size := h.lf_lt (.inl (by rw [hlv]; rfl))
  have hbq : qb < w.heap.size := lt_of_heap hq
  have hb2 : g2 < w.heap.size := h.lf_lt (.inr ⟨r, hrm, by rw [hv]; rfl⟩)
  have HB : Hid (∀ m, _) := fun m => bsAt g2 cap2 r e (w.drewN m) (sd_run hs hrm) (fun j hj => hc j hj) (fun x hx => (h.el r hrm x hx).drewN m) (he.drewN m) (Nat.le_trans (flat_len hrm) hl)
  have hpl := cut_le r.els e
  have hsp := put_sp (R1 := R1.map Run.els) (R2 := R2.map Run.els) (r := r.els) (e := e) (by simpa [flat] using hs)
    (fun s hs1 => by
      have hs2 : s ∈ (R1 ++ r :: R2).map Run.els := by simpa using hs1
      obtain ⟨t, ht, rfl⟩ := List.mem_map.1 hs2
      exact h.ne t ht) (by simpa using hi0)
  have hcs := hq.cells
  have hf1 := hq.frozen 1
  have hfg : w.frozen? ⟨g, R1.length, none⟩ = false := by
    obtain ⟨cur, hcur⟩ := own_type h.own (k := g) (by rw [hlv]; rfl)
    exact Lib.frozen_of_heap hcur _
  have HQ := show Hid _ from hq
  have HL := show Hid _ from h
  have HLV := show Hid _ from hlv
  have HV := show Hid _ from hv
  have HEl := show Hid _ from he
  obtain ⟨i, hi⟩ : ∃ i, i = R1.length := ⟨_, rfl⟩
  obtain ⟨k, hk⟩ : ∃ k, k = R1.length + R2.length + 1 := ⟨_, rfl⟩
  obtain ⟨n, hn⟩ : ∃ n, n = r.els.length := ⟨_, rfl⟩
  obtain ⟨p, hp⟩ : ∃ p, p = cut r.els e := ⟨_, rfl⟩
  obtain ⟨j, hj⟩ : ∃ j, j = rcut ((R1 ++ r :: R2).map Run.els) e := ⟨_, rfl⟩
  have c1 := hcs.2.1
  rw [hlv, hlen, ← hk] at c1
  rw [hv, ← hn, ← hi] at h3
  rw [← hi] at hfg
  rw [← hp, ← hn] at HB
  rw [← hj] at HR hi0
  rw [hlen, ← hk, ← hi] at hi0
  rw [← hp] at hsp hpl
  rw [← hn] at hpl h4
  have HN : Hid (i = R1.length ∧ k = R1.length + R2.length + 1 ∧ n = r.els.length ∧ (flat (R1 ++ r :: R2)).length ≤ 65536) := ⟨hi, hk, hn, hl⟩
  have HSP : Hid (Sp ((R1.map Run.els).flatten ++ r.els.take p) (r.els.drop p ++ (R2.map Run.els).flatten) e) := hsp
  have hj0 : (0 : Int) ≤ (i : Int) := by omega
  have hj1 : (i : Int) < (k : Int) := by omega
  have hk0 : ¬ ((k : Int) = 0) := by omega
  have hk6 : k ≤ 65536 := by omega
  have hn6 : n ≤ 65536 := by omega
  have hmin : min (j : Int) ((k : Int) - 1) = (i : Int) := by omega
  clear hq h hs he hc hv hlv hrm hi hk hn hp hlen hrl hrn h1 hcs hsp hi0 hj hl
  go_enter Try.func77, Try.ntmps77
  go_wp2_with fail
  go_quiet ((go_at_call 105; exact Calls.quiet_of (HR.out _)))
  have c2 : (w.drewN nq).cell? ⟨qb, 1, none⟩ = some (.slice (some ⟨g, 0, none⟩) k cap) := c1
  have h6 : (w.drewN nq).cell? ⟨g, i, none⟩ = some (.slice (some ⟨g2, 0, none⟩) n cap2) := h3
  have HW : Hid (∀ k, Fresh w ((w.drewN nq).drewN k) ∧ ((w.drewN nq).drewN k).heap = w.heap) := fun k => ⟨((Kept.refl _ w).drewN nq).drewN k, rfl⟩
  have HBk : Hid (Unit → _) := fun (_ : Unit) => HB.out nq
  clear HB HR
  generalize w.drewN nq = w1 at *
  go_wp2_with fail
  refine (HBk.out ()).mono ?_
  rintro q w2' ⟨⟨f, rfl⟩, k2, rfl⟩
  have HW2 : Hid (Fresh w (w1.drewN k2) ∧ (w1.drewN k2).heap = w.heap) := HW.out k2
  clear HW HBk c2 h6
  generalize w1.drewN k2 = w2 at *
  have hcw : ∀ x, w2.cell? x = w.cell? x := fun x => by simp only [World.cell?, HW2.out.2]
  have hfw : ∀ x, w2.frozen? x = w.frozen? x := fun x => by simp only [World.frozen?, HW2.out.2]
  have g1 := (hcw ⟨qb, 1, none⟩).trans c1
  have g3 := (hcw ⟨g, i, none⟩).trans h3
  have g4 := (hfw ⟨g, i, none⟩).trans hfg
  have HSZ : Hid (w2.heap.size = w.heap.size) := by show _ = _; rw [HW2.out.2]
  have hqz : qb < (w2.alloc (.cells #[pV e] 130)).drew.heap.size := by have := HSZ.out; show qb < (w2.alloc _).heap.size; simp; omega
  have hgz : g < (w2.alloc (.cells #[pV e] 130)).drew.heap.size := by have := HSZ.out; show g < (w2.alloc _).heap.size; simp; omega
  have hq2 : qb < w2.heap.size := by have := HSZ.out; omega
  have hg2 : g < w2.heap.size := by have := HSZ.out; omega
  clear hcw hfw c1 h3 hfg hf1
  have hA : Fresh w2 (w2.alloc (.cells #[pV e] 130)) := (Kept.refl _ _).alloc _
  have a1 := (hA.drew.cell (p := ⟨qb, 1, none⟩) hq2 (fun e => e)).trans g1
  have a3 := (hA.drew.cell (p := ⟨g, i, none⟩) hg2 (fun e => e)).trans g3
  have a4 := (hA.drew.frozen (p := ⟨g, i, none⟩) hg2 (fun e => e)).trans g4
  have HI : Hid (Unit → _) := fun (_ : Unit) => insE_any g2 n cap2 p (r.els.map pV) (pV e) w2.heap.size (w2.alloc (.cells #[pV e] 130)).drew
    (by
      have h7 := HL.out.run r (by simp)
      rw [HV.out, ← HN.out.2.2.1] at h7
      exact owns_kept (owns_kept h7 HW2.out.1 (fun _ _ e => e)) hA.drew (fun _ _ e => e))
    hpl (by omega) rfl (pV_one _) (heap_alloc_new w2 _) (by have := HSZ.out; omega)
  rw [show (r.els.map pV).take p ++ pV e :: (r.els.map pV).drop p = (r.els.take p ++ e :: r.els.drop p).map pV by simp] at HI
  have HFW : Hid (Fresh w (w2.alloc (.cells #[pV e] 130)).drew) := HW2.out.1.trans hA.drew (fun _ _ e => e)
  have HA4 := show Hid _ from a4
  clear hA
  go_wp2_with fail
  go_region_with (first | (go_at_call 108; refine (HI.out ()).mono ?_; rintro q5 X5 ⟨g5, cap5, rfl, hX1, hXk, hg5⟩; have hX2 : Kept (fun k => k = g2) (w2.alloc (.cells #[pV e] 130)).drew X5 := hXk.mono (fun k _ e => (Option.some.inj e).symm); have hY1 := (hX2.cell (p := ⟨qb, 1, none⟩) hqz (fun e => hg2q e.symm)).trans a1; have hY2 := (hX2.frozen (p := ⟨g, i, none⟩) hgz (fun e => hgg e.symm)).trans HA4.out; have hY3 := (hX2.cell (p := ⟨g, i, none⟩) hgz (fun e => hgg e.symm)).trans a3))
  all_goals
    have hgX : g < X5.heap.size := Nat.lt_of_lt_of_le hgz hX2.size
    have hqX : qb < X5.heap.size := Nat.lt_of_lt_of_le hqz hX2.size
    have hk3 := (Kept.refl (fun k => k = g) X5).setCell (p := ⟨g, i, none⟩) (fun _ => rfl) (.slice (some ⟨g5, 0, none⟩) (n + 1) cap5)
    have hZ1 := (hk3.cell (p := ⟨qb, 1, none⟩) hqX (fun e => hgq e.symm)).trans hY1
    have hZ2 := World.cell?_setCell_same X5 ⟨g, i, none⟩ (.slice (some ⟨g5, 0, none⟩) (n + 1) cap5) hY3
    have hpe := put_end HQ.out HL.out HLV.out HV.out HN.out.2.2.1 HEl.out HFW.out hX1 hX2 (by rcases hg5 with e | e; exact .inl (Option.some.inj e); exact .inr (by have := HFW.out.size; omega))
    rw [← HN.out.1] at hpe
    have HPE := show Hid _ from hpe
    clear hpe hX1 hXk hg5 hX2 HI hk3 hY1 hY2 hY3 g1 g3 g4 a1 a3 a4 HFW
    generalize X5.setCell ⟨g, i, none⟩ (.slice (some ⟨g5, 0, none⟩) (n + 1) cap5) = W3 at *
    by_cases h512 : 512 < n + 1
    · have HCut : Hid (Unit → _) := fun (_ : Unit) => cut_any qb N lv M tk ar R1 R2 _ W3 HPE.out.1 HPE.out.2.1 (by
        have h7 := HN.out.2.2.2
        have h8 : (flat (R1 ++ (⟨.slice (some ⟨g5, 0, none⟩) (n + 1) cap5, r.els.take p ++ e :: r.els.drop p⟩ : Run) :: R2)).length = (flat (R1 ++ r :: R2)).length + 1 := by
          simp only [flat, List.map_append, List.map_cons, List.flatten_append, List.flatten_cons, List.length_append, List.length_cons, List.length_take, List.length_drop]
          have := HN.out.2.2.1
          omega
        omega) (by
          show 1 < (r.els.take p ++ e :: r.els.drop p).length
          rw [List.length_append, List.length_cons, List.length_take, List.length_drop]
          have := HN.out.2.2.1
          omega)
      have HP2 : Hid (∀ w', LnPost W3 qb N lv M tk ar (R1 ++ ⟨.slice (some ⟨g5, 0, none⟩) (n + 1) cap5, r.els.take p ++ e :: r.els.drop p⟩ :: R2) (flat (R1 ++ ⟨.slice (some ⟨g5, 0, none⟩) (n + 1) cap5, r.els.take p ++ e :: r.els.drop p⟩ :: R2)) w' → PutPost w qb N lv M tk ar (R1 ++ r :: R2) e w') := fun w' hp => put_done2 HSP.out HPE.out.1 HPE.out.2.1 HPE.out.2.2.1 HPE.out.2.2.2 hp
      rw [← HN.out.1] at HCut
      clear HQ HL HLV HV HEl HPE HN HSP HW2 HSZ HA4
      go_wp2_with fail
      refine (HCut.out ()).mono ?_
      rintro q6 W6 ⟨rfl, hp6⟩
      have HP3 : Hid (Unit → _) := fun (_ : Unit) => HP2.out W6 hp6
      clear HCut HP2 hp6
      go_wp2
      go_end0
      exact ⟨rfl, HP3.out ()⟩
    · have HP3 : Hid (Unit → PutPost w qb N lv M tk ar (R1 ++ r :: R2) e W3) := fun (_ : Unit) => put_done HSP.out HPE.out.1 HPE.out.2.1 HPE.out.2.2.1 HPE.out.2.2.2
      clear HQ HL HLV HV HEl HPE HN HSP HW2 HSZ HA4
      go_wp2
      go_end0
      exact ⟨rfl, HP3.out ()⟩

/-- An element is put into a line. -/
theorem put_any (qb N : Nat) (lv : Value) (M tk ar : Nat) (R : List Run) (e : El) (w : World) (hq : QB w qb N lv M tk ar) (h : LnM w lv R) (hs : Sd (flat R)) (hl : (flat R).length ≤ 65536) (he : ElAt w e) :
    Calls Try.prog 77 #[.pointer (some ⟨qb, 1, none⟩), pV e] w fun q w' => q = .returned (.tuple #[]) ∧ PutPost w qb N lv M tk ar R e w' := by
  by_cases hR : R = []
  · subst hR
    exact put0_any qb N lv M tk ar e w hq h he
  · have hpos := List.length_pos_iff.2 hR
    obtain ⟨i, hi⟩ : ∃ i, i = min (rcut (R.map Run.els) e) (R.length - 1) := ⟨_, rfl⟩
    have hiR : i < R.length := by omega
    have hsplit : R = R.take i ++ R[i] :: R.drop (i + 1) := by rw [List.getElem_cons_drop, List.take_append_drop]
    have hli : (R.take i).length = i := by rw [List.length_take]; omega
    have := put1_any qb N lv M tk ar (R.take i) (R.drop (i + 1)) R[i] e w hq (by rw [← hsplit]; exact h) (by rw [← hsplit]; exact hs) (by rw [← hsplit]; exact hl) he (by rw [← hsplit, hli]; exact hi)
    rw [← hsplit] at this
    exact this
end Go.Proofs.Ytonpdnpfekmapaa
