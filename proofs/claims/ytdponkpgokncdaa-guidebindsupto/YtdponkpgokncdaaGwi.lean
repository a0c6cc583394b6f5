/-
  The document's Mask where it binds.
-/
import Derived.Test.YtdponkpgokncdaaGwh
namespace Go.Proofs.Ytdponkpgokncdaa
open Go.RowKit Go.Lib Go.Maps

set_option maxHeartbeats 2000000 in
set_option maxRecDepth 100000 in
theorem rmask_bound {p q : Nat → Prop} (A : List Bool) (E : List Ed) (T : List (List UInt8)) (M : List Mg) (an en tv mv : Value) (w : World) (hA : RbL p w an A) (hE : EdR p w en E) (hT : TxR q w tv T) (hM : MgR q w mv M) (s : Int) (hv0 : vcE T M = 0) (hc0 : chE A E = 0) (hA0 : 0 < A.length) (sn : Nat) (hs : s = (sn : Int)) (hsn : sn < A.length) :
    Calls Try.prog 21 #[.agg #[an, en], .agg #[tv, mv], zV s] w fun e w' => MkQ A E T M s w e w' := by
  have HB := show Hid _ from box2 w #[an, en] #[tv, mv] 28 55
  have HVC : Hid (∀ X, Fresh w X → Calls Try.prog 27 #[.agg #[tv, mv]] X fun e X' => e = .returned (.tuple #[zV (vcP T M), zV 0]) ∧ Fresh X X') := fun X hX => by
    have := refCheck_any X tv mv T M (hT.fresh hX) (hM.fresh hX)
    rwa [hv0] at this
  have HGC : Hid (∀ X, Fresh w X → Calls Try.prog 11 #[.agg #[an, en]] X fun e X' => e = .returned (.tuple #[zV (chP A E), zV 0]) ∧ Fresh X X') := fun X hX => by
    have := rcheck_any A E an en X (hA.fresh hX) (hE.fresh hX)
    rwa [hc0] at this
  have HRA : Hid (∀ X, Fresh w X → Calls Try.prog 13 #[.agg #[an, en]] X fun e w' => ∃ v, e = .returned v ∧ w'.ownsRow X.heap.size 4 1 v A.length ((drL A E).map Value.bool) ∧ Fresh X w') := fun X hX => ralive_any A E an en X (hA.fresh hX) (hE.fresh hX)
  have hwt := wrT_good (vcE_zero hv0).1
  have HWK : Hid (∀ X, Fresh w X → ∀ i, i < T.length → Calls Try.prog 17 #[.agg #[an, en], zV s, sV (gT T i)] X fun e w' => e = .returned (zV (wkF (mF A E) s (gT T i))) ∧ Fresh X w') := fun X hX i hi => by
    have hl := good_64 (vcE_zero hv0).1 i hi
    have h2 := rwalk_any A E an en X (hA.fresh hX) (hE.fresh hX) s ⟨(gT T i).toArray⟩ (by simp only [ByteArray.size, List.size_toArray]; omega)
    have h3 : wlF A E s (gT T i) = wkF (mF A E) s (gT T i) := if_pos ⟨hc0, by omega, by rw [(mF_some (E := E) hA0).1]; omega⟩
    rw [← h3]
    simpa using h2
  have HRG : Hid (∀ i, wkF (mF A E) s (gT T i) = -1 ∨ (0 ≤ wkF (mF A E) s (gT T i) ∧ wkF (mF A E) s (gT T i) < (A.length : Int))) := fun i => by
    have hb := (chE_zero hc0).2.2.1
    have := wkF_range (n := (A.length : Int)) (fun a c => by
      have := mF_range hb a c
      rwa [(mF_some (E := E) hA0).1] at this) (gT T i) s (.inr ⟨by omega, by omega⟩)
    exact this
  have HLE : Hid (drL A E = lvL (mF A E) (nA A)) := by
    show _ = _
    rw [drL_lv (chE_zero hc0).2.2.1 (fun i hi => hE.ok hi), (mF_some (E := E) hA0).1, (mF_some (E := E) hA0).2]
  have HG0 : Hid (myF (mF A E) (nA A) T s 0 = A.getD sn false) := by
    show _ = _
    unfold myF
    rw [if_pos rfl, (mF_some (E := E) hA0).1, hs, decide_eq_true (by omega), Bool.true_and]
    rfl
  have HG1 : Hid (∀ i, 0 < i → myF (mF A E) (nA A) T s i = (decide (wkF (mF A E) s (gT T i) ≠ -1) && (lvL (mF A E) (nA A)).getD (wkF (mF A E) s (gT T i)).toNat false)) := fun i hi => if_neg (by omega)
  have HAC : Hid (∀ X, Fresh w X → ∃ ab off ac, an = .slice (some ⟨ab, off, none⟩) A.length ac ∧ X.cell? ⟨ab, off + sn, none⟩ = some (.bool (A.getD sn false))) := fun X hX => by
    obtain ⟨ao, ac, h⟩ := (hA.fresh hX).shape
    subst h
    obtain ⟨ab, off, rfl, _, _, h⟩ := (hA.fresh hX).cells hA0
    exact ⟨ab, off, ac, rfl, h sn hsn⟩
  have hDm : DmS A s := .inr ⟨by omega, by rw [(mF_some (E := E) hA0).1]; omega⟩
  have HQ : Hid (∀ (X : World) (v : Value), w.heap.size ≤ X.heap.size → ∀ Y, Y.ownsRow X.heap.size 4 1 v T.length ((msF (mkB T.length (myF (mF A E) (nA A) T s))).map Value.bool) → Fresh w Y → MkQ A E T M s w (.returned (.tuple #[v, zV 0])) Y) := fun X v hX Y ho hY => by
    obtain ⟨k1, k2⟩ := mk_ok (s := s) hv0 hc0 hDm
    refine ⟨_, by rw [k1], ?_, hY⟩
    rw [k2, msF_len, mkB_len]
    exact own_low ho hX
  have HTX : Hid (∀ X, Fresh w X → TxR q X tv T) := fun X hX => hT.fresh hX
  obtain ⟨ab, aoff, acap, rfl, _⟩ := HAC.out w (Kept.refl _ w)
  have HAC2 : Hid (∀ X, Fresh w X → X.cell? ⟨ab, aoff + sn, none⟩ = some (.bool (A.getD sn false))) := fun X hX => by
    obtain ⟨ab', off', ac', h1, h2⟩ := HAC.out X hX
    injection h1 with h1
    injection h1 with h1
    injection h1 with e1 e2
    subst e1
    subst e2
    exact h2
  clear HAC
  obtain ⟨ta, tc, rfl⟩ := hT.shape
  obtain ⟨ma, mc, rfl⟩ := hM.shape
  obtain ⟨eo, ec, rfl⟩ := hE.shape
  clear hA hE hT hM hDm
  generalize MkQ A E T M s = Q at *
  generalize hgg : myF (mF A E) (nA A) T s = g at *
  clear hgg
  generalize drL A E = LV at *
  generalize vcP T M = cp at *
  generalize chP A E = gp at *
  clear hv0 hc0
  subst hs
  go_enter Try.func21, Try.ntmps21
  go_upto_region 1 with fail
  have HK0 : Hid (Fresh ((w.alloc (.cells #[.slice (some ⟨ab, aoff, none⟩) A.length acap, .slice eo E.length ec] 28)).alloc (.cells #[.slice ta T.length tc, .slice ma M.length mc] 55)) ((w.alloc (.cells #[.slice (some ⟨ab, aoff, none⟩) A.length acap, .slice eo E.length ec] 28)).alloc (.cells #[.slice ta T.length tc, .slice ma M.length mc] 55))) := Kept.refl _ _
  generalize (w.alloc (.cells #[.slice (some ⟨ab, aoff, none⟩) A.length acap, .slice eo E.length ec] 28)).alloc (.cells #[.slice ta T.length tc, .slice ma M.length mc] 55) = W1 at *
  have HX : Hid (∀ X, Fresh W1 X → Fresh w X ∧ X.cell? ⟨w.heap.size, 0, none⟩ = some (.slice (some ⟨ab, aoff, none⟩) A.length acap) ∧ X.cell? ⟨w.heap.size, 1, none⟩ = some (.slice eo E.length ec) ∧ X.cell? ⟨w.heap.size + 1, 0, none⟩ = some (.slice ta T.length tc) ∧ X.cell? ⟨w.heap.size + 1, 1, none⟩ = some (.slice ma M.length mc)) := fun X hk => by
    obtain ⟨hf1, hb0, hb1⟩ := HB.out X hk
    exact ⟨hf1, by rw [Lib.cell_of_heap hb0]; rfl, by rw [Lib.cell_of_heap hb0]; rfl, by rw [Lib.cell_of_heap hb1]; rfl, by rw [Lib.cell_of_heap hb1]; rfl⟩
  clear HB
  obtain ⟨hf1, x0, x1, x2, x3⟩ := HX.out W1 HK0.out
  have HV1 := show Hid _ from HVC.out W1 hf1
  clear hf1 HVC HK0
  go_wp2_with fail
  refine Calls.mono HV1.out ?_
  rintro e W2 ⟨rfl, hf2⟩
  obtain ⟨hf2w, x0, x1, x2, x3⟩ := HX.out W2 hf2
  have HF2 : Hid (Fresh W1 W2) := hf2
  have HG1c := show Hid _ from HGC.out W2 hf2w
  clear hf2 hf2w HV1 HGC
  go_wp2_with fail
  refine Calls.mono HG1c.out ?_
  rintro e W3 ⟨rfl, hf3⟩
  have HF3 : Hid (Fresh W1 W3) := HF2.out.trans hf3 (fun _ _ e => e)
  obtain ⟨hf3w, x0, x1, x2, x3⟩ := HX.out W3 HF3.out
  clear hf3 HF2 HG1c
  have hpos : (0 : Int) < (A.length : Int) := by omega
  have HSTA := show Hid _ from rstate_any (some ⟨ab, aoff, none⟩) eo A.length acap E.length ec (sn : Int) W3
  have hbool : (decide ((0 : Int) ≤ (sn : Int)) && decide ((sn : Int) < (A.length : Int))) = true := by simp; omega
  rw [hbool] at HSTA
  have hs1 : ((sn : Int) != -1) = true := bne_iff_ne.2 (by omega)
  have hs2 : (0 : Int) ≤ (sn : Int) := by omega
  clear hbool hf3w
  go_wp2_with fail
  refine Calls.mono HSTA.out ?_
  rintro e W4 ⟨rfl, rfl⟩
  have HF4 : Hid (Fresh W1 (W3.alloc (.cells #[.slice (some ⟨ab, aoff, none⟩) A.length acap, .slice eo E.length ec] 28))) := HF3.out.alloc _
  clear HF3 HSTA
  generalize W3.alloc (.cells #[.slice (some ⟨ab, aoff, none⟩) A.length acap, .slice eo E.length ec] 28) = W4 at *
  obtain ⟨hf4w, x0, x1, x2, x3⟩ := HX.out W4 HF4.out
  have HR1 := show Hid _ from HRA.out W4 hf4w
  clear HRA
  go_wp2_with fail
  refine Calls.mono HR1.out ?_
  rintro e W5 ⟨lv, rfl, hown, hf5⟩
  have HF5 : Hid (Fresh W1 W5) := HF4.out.trans hf5 (fun _ _ e => e)
  obtain ⟨lo, lc, hlv⟩ := ownsRow_shape hown
  subst hlv
  have HLV : Hid (∀ X, Fresh W5 X → ∀ i, i < A.length → ∃ lb, lo = some ⟨lb, 0, none⟩ ∧ X.cell? ⟨lb, i, none⟩ = some (.bool (LV.getD i false))) := fun X hX i hi => by
    have h1 := owns_kept hown hX (fun _ _ e => e)
    rcases h1.2 with ⟨e, h0⟩ | ⟨lb, c, cur, hv, _⟩
    · omega
    · injection hv with e1 e2 e3
      subst e1
      have hl : LV.length = A.length := by have := hown.1; simpa using this
      refine ⟨lb, rfl, ?_⟩
      rw [own_cellB h1 hi, List.getElem?_map, List.getD_eq_getElem?_getD, List.getElem?_eq_getElem (by omega)]
      rfl
  clear hown hf5 HR1 HF4
  have HI0 : Hid (ReI W5 g (.slice (some ⟨W5.heap.size, 0, none⟩) 0 0) 0 (W5.alloc (.cells #[] 4))) := ReI.start (Kept.refl _ W5)
  have HLO : Hid (w.heap.size ≤ W5.heap.size) := ((HX.out W5 HF5.out).1).size
  go_upto_region 12 with fail
  generalize W5.alloc (.cells #[] 4) = W6 at *
  obtain ⟨ob, hob⟩ : ∃ ob, W5.heap.size = ob := ⟨_, rfl⟩
  rw [hob] at HI0
  rw [hob]
  clear hob
  have hwt2 := hwt.1
  have hwt3 := hwt.2.1
  clear hwt x0 x1 x2 x3
  obtain ⟨N, hN⟩ : ∃ N, N = T.length := ⟨_, rfl⟩
  rw [← hN] at hwt2 hwt3 HX HQ HTX
  rw [← hN]
  have HNT : Hid (N = T.length) := hN
  clear hN
  go_wp2
  go_loopw [14, 15, 16] (fun ov sv iv wr => ∃ (j : Nat) (so : Option Addr) (c : Nat), j ≤ N ∧ iv = zV j ∧ ov = .slice so j c ∧ sv = .bool (anyB (mkB j g)) ∧ Hid (ReI W5 g (.slice so j c) j wr)) (fun _ _ iv _ => N - (RowKit.intOf iv).toNat)
  case atStart => exact ⟨0, _, 0, Nat.zero_le _, rfl, rfl, rfl, HI0.out⟩
  case round =>
    obtain ⟨j, so, c, hj, rfl, rfl, rfl, HA⟩ := hrel
    clear HI0
    obtain ⟨hfw, x0, x1, x2, x3⟩ := HX.out wr (HF5.out.trans HA.out.2 (fun _ _ e => e))
    by_cases hlt : j < N
    · have hlt' : (j : Int) < (N : Int) := by omega
      have h0j : (0 : Int) ≤ (j : Int) := by omega
      have HSN : Hid (∀ y, g j = y → anyB (mkB (j + 1) g) = (anyB (mkB j g) || y)) := fun y hy => by rw [mkB_succ, anyB_snoc, hy]
      obtain ⟨sm, hsm⟩ : ∃ sm, anyB (mkB j g) = sm := ⟨_, rfl⟩
      rw [hsm] at HSN
      rw [hsm]
      clear hsm
      rcases Nat.eq_zero_or_pos j with hj0 | hj0
      · subst hj0
        have hcell := HAC2.out wr hfw
        have hg0 := HG0.out
        generalize A.getD sn false = y at *
        obtain ⟨so2, c2, X2, hrun, hre⟩ := HA.out.push (by omega) y hg0
        have HS2 : Hid (anyB (mkB (0 + 1) g) = (sm || y)) := HSN.out _ hg0
        have HZ : Hid _ := hre
        clear hre HA HSN hfw HTX HG0 HG1 HWK HRG HLV HLE HAC2
        cases sm <;> cases y
        all_goals
          go_wp2_with (at_builtin; refine Lib.wpList_append_run _ rfl _ _ _ _ rfl _ _ rfl rfl _ _ hrun ?_)
          clear hrun
          go_roundw
          case rel => exact ⟨0 + 1, so2, c2, hlt, by go_num, rfl, by rw [HS2.out]; rfl, HZ.out⟩
          case measure => simp [RowKit.intOf]; omega
      · have hg1 := HG1.out j hj0
        have hjn : (0 : Int) < (j : Int) := by omega
        have hjz : ((j : Int) == 0) = false := beq_eq_false_iff_ne.2 (by omega)
        have hr := HRG.out j
        have hTj : TxR q wr (.slice ta N tc) T := HTX.out wr hfw
        obtain ⟨tb, toff, hta, htc⟩ : ∃ tb toff, ta = some ⟨tb, toff, none⟩ ∧ ∀ X, Fresh wr X → X.cell? ⟨tb, toff + j, none⟩ = some (sV (gT T j)) := by
          obtain ⟨_, _, h6⟩ := hTj.cells
          obtain ⟨tb, toff, e, _, hb, hc⟩ := h6 (by omega)
          exact ⟨tb, toff, e, fun X hX => (hX.cell (p := ⟨tb, toff + j, none⟩) hb (fun e => e)).trans (hc j hlt)⟩
        subst hta
        have K1 : Hid (∀ d : Nw wr, Calls Try.prog 17 #[.agg #[.slice (some ⟨ab, aoff, none⟩) A.length acap, .slice eo E.length ec], zV (sn : Int), sV (gT T j)] d.w fun e w' => e = .returned (zV (wkF (mF A E) (sn : Int) (gT T j))) ∧ Fresh d.w w') := fun d => HWK.out d.w (hfw.trans d.f (fun _ _ e => e)) j (by have := HNT.out; omega)
        have HXd : Hid (∀ d : Nw wr, Fresh W1 d.w) := fun d => HF5.out.trans (HA.out.2.trans d.f (fun _ _ e => e)) (fun _ _ e => e)
        have u0 : ∀ d : Nw wr, d.w.cell? ⟨w.heap.size, 0, none⟩ = some (.slice (some ⟨ab, aoff, none⟩) A.length acap) := fun d => (HX.out d.w (HXd.out d)).2.1
        have u1 : ∀ d : Nw wr, d.w.cell? ⟨w.heap.size, 1, none⟩ = some (.slice eo E.length ec) := fun d => (HX.out d.w (HXd.out d)).2.2.1
        have u2 : ∀ d : Nw wr, d.w.cell? ⟨w.heap.size + 1, 0, none⟩ = some (.slice (some ⟨tb, toff, none⟩) N tc) := fun d => (HX.out d.w (HXd.out d)).2.2.2.1
        have u3 : ∀ d : Nw wr, d.w.cell? ⟨tb, toff + j, none⟩ = some (sV (gT T j)) := fun d => htc d.w d.f
        clear hTj htc HWK HG0 HG1 HRG HAC2 hfw HTX
        rw [HLE.out] at HLV
        clear HLE
        have HPU : Hid (∀ d : Nw wr, ∀ y, g j = y → ∃ so2 c2 X2, (Builtin.append_ #[22, 22] 22 #[.slice so j c, .slice (some ⟨d.w.heap.size, 0, none⟩) 1 1]).run Try.prog (d.w.alloc (.cells #[.bool y] 4)) = .ok (.slice so2 (j + 1) c2) X2 ∧ ReI W5 g (.slice so2 (j + 1) c2) (j + 1) X2) := fun d y hy => (HA.out.fresh d.f).push (by omega) y hy
        have HLD : Hid (∀ d : Nw wr, ∀ i, i < A.length → ∃ lb, lo = some ⟨lb, 0, none⟩ ∧ d.w.cell? ⟨lb, i, none⟩ = some (.bool ((lvL (mF A E) (nA A)).getD i false))) := fun d => HLV.out d.w (HA.out.2.trans d.f (fun _ _ e => e))
        clear HA HLV
        generalize wkF (mF A E) (sn : Int) (gT T j) = t at *
        generalize gT T j = tt at *
        generalize lvL (mF A E) (nA A) = LV at *
        go_upto_region 20 with fail
        haveI : Nonempty (Nw wr) := nw_some wr
        refine wp_region_new (by kernel_rfl) (by kernel_rfl) ?_
        repeat (go_big_quiet_step (with_reducible exact Calls.new_of (K1.out _)))
        refine wpQuiet_nil ?_
        intro _ hw'
        obtain ⟨d, hw''⟩ := hw'
        subst hw''
        clear u0 u1 u2 u3 K1 x0 x1 x2 x3
        rcases hr with ht | ⟨hr1, hr2⟩
        · subst ht
          have hgj : g j = false := by rw [hg1]; rfl
          obtain ⟨so2, c2, X2, hrun, hre⟩ := HPU.out d false hgj
          have HS2 : Hid (anyB (mkB (j + 1) g) = (sm || false)) := HSN.out _ hgj
          have HZ : Hid _ := hre
          clear hre HSN hg1 hgj HPU HLD
          generalize d.w = Y at *
          cases sm
          all_goals
            go_wp2_with (at_builtin; refine Lib.wpList_append_run _ rfl _ _ _ _ rfl _ _ rfl rfl _ _ hrun ?_)
            clear hrun
            go_roundw
            case rel => exact ⟨j + 1, so2, c2, hlt, by go_num, rfl, by rw [HS2.out]; rfl, HZ.out⟩
            case measure => simp [RowKit.intOf]; omega
        · obtain ⟨tn, rfl⟩ := Int.eq_ofNat_of_zero_le hr1
          have htn : tn < A.length := by omega
          obtain ⟨lb, hlo, hlc⟩ := HLD.out d tn htn
          subst hlo
          have hgj : g j = LV.getD tn false := by rw [hg1, decide_eq_true (by omega)]; rfl
          generalize LV.getD tn false = y at *
          obtain ⟨so2, c2, X2, hrun, hre⟩ := HPU.out d y hgj
          have HS2 : Hid (anyB (mkB (j + 1) g) = (sm || y)) := HSN.out _ hgj
          have HZ : Hid _ := hre
          clear hre HSN hg1 hgj HPU HLD
          generalize d.w = Y at *
          cases sm <;> cases y
          all_goals
            go_wp2_with (at_builtin; refine Lib.wpList_append_run _ rfl _ _ _ _ rfl _ _ rfl rfl _ _ hrun ?_)
            clear hrun
            go_roundw
            case rel => exact ⟨j + 1, so2, c2, hlt, by go_num, rfl, by rw [HS2.out]; rfl, HZ.out⟩
            case measure => simp [RowKit.intOf]; omega
    · obtain rfl : j = N := by omega
      have hlt' : ¬ ((j : Int) < (j : Int)) := by omega
      have HFY : Hid (Fresh w wr) := hfw
      obtain ⟨b, cb, hv, ⟨z0, hz0⟩, hz1⟩ := HA.out.blk (by omega)
      injection hv with e1 _ e3
      subst e1
      subst e3
      cases hany : anyB (mkB j g) with
      | true =>
        have HZ : Hid (Q w (.returned (.tuple #[.slice (some ⟨b, 0, none⟩) j c, zV 0])) wr) := HQ.out W5 _ HLO.out wr (HA.out.done hany) HFY.out
        clear HQ HA hfw hany
        go_wp2
        exact HZ.out
      | false =>
        have hl := HA.out.last hany
        have HZ : Hid (Q w (.returned (.tuple #[.slice (some ⟨b, 0, none⟩) j c, zV 0])) (wr.setCell ⟨b, 0, none⟩ (.bool true))) := HQ.out W5 _ HLO.out _ hl.1 ((HX.out _ (HF5.out.trans hl.2 (fun _ _ e => e))).1)
        clear HQ HA hfw hany hl
        go_wp2
        exact HZ.out
end Go.Proofs.Ytdponkpgokncdaa
