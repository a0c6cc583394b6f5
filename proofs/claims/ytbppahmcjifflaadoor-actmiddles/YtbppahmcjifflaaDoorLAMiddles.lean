/-
  For every middle, bend and row the statement ActMiddles answers true: awake does; Middle is the document's; what is handed in stays as it is; its card, tied to the program's text.
-/
import Derived.Test.YtbppahmcjifflaaDoorAck
import Derived.Test.YtbppahmcjifflaaDoorAch
import Derived.Test.YtbppahmcjifflaaDoorAcm
namespace Go.Proofs.YtbppahmcjifflaaDoor.AMiddles
open Go.ChangeShapes Go.WideShapes Go.ChangeAt Go.RowKit Go.Lib Go.Maps

set_option maxHeartbeats 4000000 in
set_option maxRecDepth 100000 in
theorem walk (v bv hv : Value) (m : Mid) (b h : List Int) (w : World) (hB : Bend w) (hm : MidV (fun x => x < w.heap.size) w v m) (hb : Rk .i8 (fun x => x < w.heap.size) w bv b) (hh : Rk .i8 (fun x => x < w.heap.size) w hv h) :
    Calls Tryd.prog 5 #[v, bv, hv] w fun e w' => e = .returned (.bool true) ∧ Fresh w w' := by
  have hm0 := hm
  obtain ⟨gv, uv, dv, rfl, hgr, hur, hdr, hi1, hi2, hi3⟩ := hm
  obtain ⟨W0, hW0⟩ : ∃ W0, w.alloc (.cells #[gv, uv, dv, zV m.gs, zV m.us, zV m.ds] 36) = W0 := ⟨_, rfl⟩
  have hF0 : Fresh w W0 := by rw [← hW0]; exact (Kept.refl _ w).alloc _
  have hsx : Six W0 w.heap.size gv uv dv (zV m.gs) (zV m.us) (zV m.ds) := by
    rw [← hW0]
    exact six_of (heap_alloc_new w _)
  have HS : Hid (∀ W, Fresh W0 W → Six W w.heap.size gv uv dv (zV m.gs) (zV m.us) (zV m.ds)) := fun W hF => hsx.fresh hF
  have HM : Hid (∀ W, Fresh W0 W → MidV (fun x => x < w.heap.size) W (.agg #[gv, uv, dv, zV m.gs, zV m.us, zV m.ds]) m ∧ Rk .i8 (fun x => x < w.heap.size) W bv b ∧ Rk .i8 (fun x => x < w.heap.size) W hv h) := fun W hF => by
    have := hF0.trans hF (fun _ _ e => e)
    exact ⟨hm0.fresh this, hb.fresh this, hh.fresh this⟩
  have HR : Hid (∀ W, Fresh W0 W → Rk .i8 (fun x => x < w.heap.size) W gv m.g ∧ Rk .i8 (fun x => x < w.heap.size) W uv m.u ∧ Rk .i8 (fun x => x < w.heap.size) W dv m.d) := fun W hF => by
    have := hF0.trans hF (fun _ _ e => e)
    exact ⟨hgr.fresh this, hur.fresh this, hdr.fresh this⟩
  have HAW : Hid (Unit → _) := fun (_ : Unit) => awake_any W0 (hB.fresh hF0)
  have HF0 : Hid (Fresh w W0) := hF0
  have HQ : Hid ((mdL m b h).length * kb .i64 ≤ 140737488351232 ∧ ∀ z ∈ mdL m b h, Fit .i64 z) := ⟨by have := mdL_len m b h; simp [kb]; omega, mdL_i64 hm0.down⟩
  obtain ⟨go', gc', rfl, _⟩ := hgr.shape
  obtain ⟨uo', uc', rfl, _⟩ := hur.shape
  obtain ⟨do', dc', rfl, _⟩ := hdr.shape
  obtain ⟨bo', bc', rfl, _⟩ := hb.shape
  obtain ⟨ho', hc', rfl, _⟩ := hh.shape
  clear hgr hur hdr hb hh hm0 hsx hF0 hB hi1 hi2 hi3
  go_enter Tryd.func5, Tryd.ntmps5
  go_wp2_with fail
  refine (HAW.out ()).mono ?_
  rintro e w1 ⟨rfl, hF1⟩
  clear HAW hW0
  obtain ⟨q0, q1, q2, q3, q4, q5, _⟩ := HS.out w1 hF1
  have HCp : Hid (Unit → _) := fun (_ : Unit) => copied_any _ _ m w1 (HM.out w1 hF1).1
  have HF1 : Hid (Fresh W0 w1) := hF1
  clear hF1
  go_wp2_with fail
  refine (HCp.out ()).mono ?_
  rintro e w2 ⟨v2, rfl, hm2, hF2⟩
  clear q0 q1 q2 q3 q4 q5 HCp
  have hF2' : Fresh W0 w2 := HF1.out.trans hF2 (fun _ _ e => e)
  have hm2' := hm2
  obtain ⟨gw, uw, dw, rfl, hgw, huw, hdw, _⟩ := hm2
  obtain ⟨t3, W3, hr3, hF3, hR3⟩ := copy_of ty8 (HM.out w2 hF2').2.2
  obtain ⟨W4, hW4⟩ : ∃ W4, W3.alloc (.cells #[.slice none 0 0, .slice none 0 0, .slice none 0 0, .int .i64 0, .int .i64 0, .int .i64 0] 36) = W4 := ⟨_, rfl⟩
  have hF4 : Fresh W3 W4 := by rw [← hW4]; exact (Kept.refl _ _).alloc _
  have hz4 : W4.heap.size = W3.heap.size + 1 := by rw [← hW4, World.size_alloc]
  have hs4 : Six W4 W3.heap.size (.slice none 0 0) (.slice none 0 0) (.slice none 0 0) (zV 0) (zV 0) (zV 0) := by rw [← hW4]; exact six_of (heap_alloc_new W3 _)
  obtain ⟨W5, hW5⟩ : ∃ W5, put6 W4 W3.heap.size gw uw dw (zV m.gs) (zV m.us) (zV m.ds) = W5 := ⟨_, rfl⟩
  have hs5 := put6_six hs4 gw uw dw (zV m.gs) (zV m.us) (zV m.ds)
  have hk5 := put6_kept W4 W3.heap.size gw uw dw (zV m.gs) (zV m.us) (zV m.ds)
  rw [hW5] at hs5 hk5
  have hF5 : Fresh W3 W5 := hF4.trans hk5 (fun i hi e => by omega)
  have hF25 : Fresh w2 W5 := hF3.trans hF5 (fun _ _ e => e)
  have HF5 : Hid (Fresh W0 W5) := hF2'.trans hF25 (fun _ _ e => e)
  have HS5 : Hid (∀ W, Fresh W5 W → Six W W3.heap.size gw uw dw (zV m.gs) (zV m.us) (zV m.ds)) := fun W hF => hs5.fresh hF
  have HR5 : Hid (∀ W, Fresh W5 W → MidV _ W (.agg #[gw, uw, dw, zV m.gs, zV m.us, zV m.ds]) m ∧ Rk .i8 _ W gw m.g ∧ Rk .i8 _ W uw m.u ∧ Rk .i8 _ W dw m.d ∧ Rk .i8 _ W t3 h) := fun W hF => ⟨(hm2'.fresh hF25).fresh hF, (hgw.fresh hF25).fresh hF, (huw.fresh hF25).fresh hF, (hdw.fresh hF25).fresh hF, (hR3.fresh hF5).fresh hF⟩
  obtain ⟨j0, j1, j2, j3, j4, j5, jf⟩ := hs4
  have g0 := jf 0
  have g1 := jf 1
  have g2 := jf 2
  have g3 := jf 3
  have g4 := jf 4
  have g5 := jf 5
  obtain ⟨r0, r1, r2, r3, r4, r5, _⟩ := HS5.out W5 (Kept.refl _ _)
  obtain ⟨a1, c1, rfl, _⟩ := hgw.shape
  obtain ⟨a2, c2, rfl, _⟩ := huw.shape
  obtain ⟨a3, c3, rfl, _⟩ := hdw.shape
  obtain ⟨a4, c4, rfl, _⟩ := hR3.shape
  have HMi : Hid (Unit → _) := fun (_ : Unit) => Middle_any _ _ _ _ _ _ m b h W5 (HR5.out W5 (Kept.refl _ _)).1 (HM.out W5 HF5.out).2.1 (HR5.out W5 (Kept.refl _ _)).2.2.2.2
  unfold put6 at hW5
  clear hgw huw hdw hR3 hm2' hF2 hF2' hF3 hF4 hz4 hs5 hk5 hF5 hF25 jf HF1
  go_wp2_with (at_builtin; refine Lib.wpList_append_run _ rfl _ _ _ _ rfl _ _ rfl rfl _ _ hr3 ?_; clear hr3)
  refine (HMi.out ()).mono ?_
  rintro e w6 hg6
  obtain ⟨v6, rfl, hr6, hF6⟩ := hg6.row HQ.out.1 HQ.out.2
  clear hg6 HMi r0 r1 r2 r3 r4 r5 j0 j1 j2 j3 j4 j5 g0 g1 g2 g3 g4 g5 hW4 hW5
  have HF6 : Hid (Fresh W5 w6) := hF6
  have HR6 : Hid (∀ W, Fresh w6 W → _) := fun W hF => hr6.fresh (W' := W) hF
  have hF06 : Fresh W0 w6 := HF5.out.trans hF6 (fun _ _ e => e)
  obtain ⟨q0, q1, q2, q3, q4, q5, _⟩ := HS.out w6 hF06
  have HPl : Hid (Unit → _) := fun (_ : Unit) => plain_any _ _ m w6 (HM.out w6 hF06).1
  clear hr6 hF6 hF06
  go_wp2_with fail
  refine (HPl.out ()).mono ?_
  rintro e w7 ⟨v7, rfl, hm7, hF7⟩
  clear HPl q0 q1 q2 q3 q4 q5
  have hF7' : Fresh W5 w7 := HF6.out.trans hF7 (fun _ _ e => e)
  have HRu : Hid (Unit → _) := fun (_ : Unit) => refRun_any _ _ _ _ _ _ m b h w7 hm7 (HM.out w7 (HF5.out.trans hF7' (fun _ _ e => e))).2.1 (HM.out w7 (HF5.out.trans hF7' (fun _ _ e => e))).2.2
  have HF7 : Hid (Fresh w6 w7) := hF7
  obtain ⟨gx, ux, dx, rfl, hgx, hux, hdx, _⟩ := hm7
  clear hF7 hF7' hgx hux hdx
  go_wp2_with fail
  refine (HRu.out ()).mono ?_
  rintro e w8 hg8
  obtain ⟨v8, rfl, hr8, hF8⟩ := hg8.row HQ.out.1 HQ.out.2
  clear hg8 HRu
  have hF68 : Fresh w6 w8 := HF7.out.trans hF8 (fun _ _ e => e)
  have HF8 : Hid (Fresh W5 w8) := HF6.out.trans hF68 (fun _ _ e => e)
  have H8 : Hid (Unit → _) := fun (_ : Unit) => same64_any _ _ _ _ (mdL m b h) w8 (HR6.out w8 hF68) hr8
  have HSx : Hid (∀ W, Fresh W5 W → _) := fun W hF => HS.out W (HF5.out.trans hF (fun _ _ e => e))
  have HRx : Hid (∀ W, Fresh W5 W → _) := fun W hF => HR.out W (HF5.out.trans hF (fun _ _ e => e))
  have HMx : Hid (∀ W, Fresh W5 W → _) := fun W hF => (HM.out W (HF5.out.trans hF (fun _ _ e => e))).2.2
  clear hr8 hF8 hF68 HF7 HR6 HQ HF6 HS HR HM
  generalize mdE m b h = E at *
  go_wp2_with fail
  refine (H8.out ()).mono ?_
  rintro e w9 ⟨rfl, n9, hw9⟩
  have HF9 : Hid (Fresh W5 w9) := by show Fresh _ _; rw [hw9]; exact HF8.out.drewN n9
  clear hw9 H8 HF8
  obtain ⟨q0, q1, q2, q3, q4, q5, _⟩ := HSx.out w9 HF9.out
  obtain ⟨r0, r1, r2, r3, r4, r5, _⟩ := HS5.out w9 HF9.out
  have H9 : Hid (Unit → _) := fun (_ : Unit) => same8_any _ _ _ _ m.g w9 (HR5.out w9 HF9.out).2.1 (HRx.out w9 HF9.out).1
  go_wp2_with fail
  refine (H9.out ()).mono ?_
  rintro e w10 ⟨rfl, n10, hw10⟩
  have HF10 : Hid (Fresh W5 w10) := by show Fresh _ _; rw [hw10]; exact HF9.out.drewN n10
  clear hw10 H9 HF9 q0 q1 q2 q3 q4 q5 r0 r1 r2 r3 r4 r5
  obtain ⟨q0, q1, q2, q3, q4, q5, _⟩ := HSx.out w10 HF10.out
  obtain ⟨r0, r1, r2, r3, r4, r5, _⟩ := HS5.out w10 HF10.out
  have H10 : Hid (Unit → _) := fun (_ : Unit) => same8_any _ _ _ _ m.u w10 (HR5.out w10 HF10.out).2.2.1 (HRx.out w10 HF10.out).2.1
  go_wp2_with fail
  refine (H10.out ()).mono ?_
  rintro e w11 ⟨rfl, n11, hw11⟩
  have HF11 : Hid (Fresh W5 w11) := by show Fresh _ _; rw [hw11]; exact HF10.out.drewN n11
  clear hw11 H10 HF10 q0 q1 q2 q3 q4 q5 r0 r1 r2 r3 r4 r5
  obtain ⟨q0, q1, q2, q3, q4, q5, _⟩ := HSx.out w11 HF11.out
  obtain ⟨r0, r1, r2, r3, r4, r5, _⟩ := HS5.out w11 HF11.out
  have H11 : Hid (Unit → _) := fun (_ : Unit) => same8_any _ _ _ _ m.d w11 (HR5.out w11 HF11.out).2.2.2.1 (HRx.out w11 HF11.out).2.2
  go_wp2_with fail
  refine (H11.out ()).mono ?_
  rintro e w12 ⟨rfl, n12, hw12⟩
  have HF12 : Hid (Fresh W5 w12) := by show Fresh _ _; rw [hw12]; exact HF11.out.drewN n12
  clear hw12 H11 HF11 q0 q1 q2 q3 q4 q5 r0 r1 r2 r3 r4 r5
  have H12 : Hid (Unit → _) := fun (_ : Unit) => same8_any _ _ _ _ h w12 (HR5.out w12 HF12.out).2.2.2.2 (HMx.out w12 HF12.out)
  clear HR5 HRx HSx HS5 HMx
  go_wp2_with fail
  refine (H12.out ()).mono ?_
  rintro e w13 ⟨rfl, n13, hw13⟩
  have HF13 : Hid (Fresh w w13) := by show Fresh _ _; rw [hw13]; exact (HF0.out.trans HF5.out (fun _ _ e => e)).trans (HF12.out.drewN n13) (fun _ _ e => e)
  clear hw13 H12 HF12
  go_wp2
  go_ret
  exact ⟨by simp, HF13.out⟩

set_option maxRecDepth 100000 in
theorem contract (H : Type) (enc : TypeId × Value → H) (W : World) (base : Nat) (args : Array Value) (ds gs : List (DataW H)) (before : List MemPlace)
    (hval : ∀ (j : Nat) t v, Tryd.f5.params[j]? = some t → args[j]? = some v → Value.okWide Tryd.prog W .any base t v)
    (hW : DataW.Whole enc Tryd.prog Tryd.f5.params.toList Rows.actMiddlesSpec.vars false W args.toList ds gs before) 
    (hsz : (DataW.weightsEach Tryd.prog (Tryd.f5.params.toList ++ []) (ds ++ gs)).all (· ≤ reachBytes) = true) (hL : laidMetH Tryd.prog Rows.actMiddlesRow.laid W) :
    Calls Tryd.prog 5 args W fun e W' => ∃ v, e = .returned v ∧ Rows.actMiddlesSpec.post enc Tryd.prog Tryd.f5 false true false false W args v W' := by
  have hW' := hW
  obtain ⟨p, q, hA0, hV, rfl, hfz, hnd⟩ := hW
  have hA : DataW.TrodAll enc Tryd.prog W 0 (fun _ => true) true Tryd.f5.params.toList args.toList ds p := hA0
  rw [Tryd.params5] at hA hval hsz
  obtain ⟨rfl, rfl⟩ := trodVars_none hV
  obtain ⟨v0, v1, v2, d0, d1, d2, p0, p1, p2, rfl, rfl, rfl, h0, h1, h2⟩ := trodAll_three hA
  obtain ⟨m, hm⟩ := mid_of (hval 0 36 v0 rfl rfl) h0 hsz (j := 0) rfl rfl
  obtain ⟨b, hb⟩ := arg8 (hval 1 23 v1 rfl rfl) h1 hsz (j := 1) rfl rfl
  obtain ⟨h, hh⟩ := arg8 (hval 2 23 v2 rfl rfl) h2 hsz (j := 2) rfl rfl
  refine (walk v0 v1 v2 m b h W (bend_of_laid hL) hm hb hh).mono fun e W' ⟨he, hk⟩ => ?_
  subst he
  exact ⟨_, rfl, post_law rfl (by kernel_rfl) (by kernel_rfl) hW' rfl hk⟩

set_option maxRecDepth 100000 in
theorem laid_met (os : Os) : laidMet Tryd.prog Rows.actMiddlesRow.laid ((layIn (World.holding Tryd.prog os ⟨#[], #[], []⟩)).forCall (fun _ _ => 0) ⟨#[], #[.agg #[.slice none 0 0, .slice none 0 0, .slice none 0 0, .int .i64 0, .int .i64 0, .int .i64 0], .slice none 0 0, .slice none 0 0], []⟩).memory :=
  laidMet_of_run' 8 (by kernel_rfl) (by kernel_rfl)
set_option maxRecDepth 100000 in
theorem reads (os : Os) {H : Type} (enc : TypeId × Value → H) : ∃ places, DataW.whole enc Tryd.prog ((layIn (World.holding Tryd.prog os ⟨#[], #[], []⟩)).forCall (fun _ _ => 0) ⟨#[], #[.agg #[.slice none 0 0, .slice none 0 0, .slice none 0 0, .int .i64 0, .int .i64 0, .int .i64 0], .slice none 0 0, .slice none 0 0], []⟩).memory Tryd.f5.params.toList Rows.actMiddlesSpec.vars false (#[.agg #[.slice none 0 0, .slice none 0 0, .slice none 0 0, .int .i64 0, .int .i64 0, .int .i64 0], .slice none 0 0, .slice none 0 0] : Array Value).toList 8 = some ([.agg [.nil, .nil, .nil, .lit (.int .i64 0), .lit (.int .i64 0), .lit (.int .i64 0)], .nil, .nil], [], places) :=
  ⟨[], by kernel_rfl⟩

set_option maxRecDepth 100000 in
theorem lifted (os : Os) (started : os.Started) (H : Type) (enc : TypeId × Value → H) (F : Stop.Interp) :
    ReturnsInHanded {} Tryd.checked os 5 .any ((OpenSpec.ofChange Rows.actMiddlesSpec).preRow enc Tryd.prog Tryd.f5 Rows.actMiddlesRow.domain false Rows.actMiddlesRow.laid) (((OpenSpec.ofChange Rows.actMiddlesSpec).at F).post enc Tryd.prog Tryd.f5 false true false false) := by
  obtain ⟨places, hx⟩ := reads os enc
  refine returnsInHanded_of_row (C := Tryd.checked) (s := OpenSpec.ofChange Rows.actMiddlesSpec) Tryd.own started (by kernel_rfl) Tryd.func5
    (witness_row_at (enc := enc) (C := Tryd.checked) false (layIn (World.holding Tryd.prog os ⟨#[], #[], []⟩)) #[.agg #[.slice none 0 0, .slice none 0 0, .slice none 0 0, .int .i64 0, .int .i64 0, .int .i64 0], .slice none 0 0, .slice none 0 0] rfl (by kernel_rfl) (by kernel_rfl) (by kernel_rfl)
      (OpenSpec.preRow_of_cond 8 hx (by kernel_rfl) (fun k hk => by cases hk) (by kernel_rfl) (laid_met os))) ?_
  intro W base args ds gs before hval hW _ hc hsz hL _ _
  exact contract H enc W base args ds gs before hval hW hsz hL

theorem said : Rows.ActMiddlesSaid :=
  OpenClaim.holds_of_cond 5 Tryd.f5 rfl rfl rfl rfl rfl rfl rfl ⟨rfl, rfl, rfl, rfl, rfl⟩ rfl rfl rfl rfl rfl (by kernel_rfl) Tryd.func5 (by kernel_rfl)
    (of_decide_eq_true (by kernel_rfl)) (by unfold Func.isWrapper; first | (rw [if_pos (by decide +kernel)]; kernel_rfl) | (rw [if_neg (by decide +kernel)]; exact ⟨rfl, rfl⟩))
    (fun os started H enc _ F => by rw [OpenClaim.pre_eq_preRow]; exact lifted os started H enc F)

theorem plain (f : FuncId) (fn : Func) (hf : Tryd.pinned.checked.prog.funcNamed Rows.actMiddlesRow.func = some f) (hfn : Tryd.pinned.checked.prog.funcs[f]? = some fn) :
    false = Tryd.pinned.checked.prog.looks [] ∧ ∀ (j : Nat) t, fn.params[j]? = some t → Tryd.pinned.checked.prog.wantsStandIn t = false := by
  obtain rfl : f = 5 := Option.some.inj ((show Tryd.prog.funcNamed Rows.actMiddlesRow.func = some 5 by kernel_rfl).symm.trans hf) |>.symm
  obtain rfl : fn = Tryd.f5 := (Option.some.inj (Tryd.func5.symm.trans hfn)).symm
  refine ⟨by kernel_rfl, fun j t ht => ?_⟩
  have hall : (Tryd.f5.params.toList.all fun u => !Tryd.prog.wantsStandIn u) = true := by kernel_rfl
  exact (show Tryd.prog.wantsStandIn t = false by simpa using List.all_eq_true.1 hall t (Array.mem_toList_iff.2 (Array.mem_of_getElem? ht)))

theorem card : Rows.ActMiddlesCardSaid :=
  Claim7.holds_tied_plain_at .later [] _ _ _ _ said (fun _ h => by cases h) (by kernel_rfl) (fun _ h => by cases h) actMiddles_row_tie rfl ⟨rfl, rfl⟩ (by kernel_rfl) rfl plain (by kernel_rfl)

end Go.Proofs.YtbppahmcjifflaaDoor.AMiddles
namespace Go.Proofs.YtbppahmcjifflaaDoor
theorem actMiddles_card : Rows.ActMiddlesCardSaid := AMiddles.card
end Go.Proofs.YtbppahmcjifflaaDoor
