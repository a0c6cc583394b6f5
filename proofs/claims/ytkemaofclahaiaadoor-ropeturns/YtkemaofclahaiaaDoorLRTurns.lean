/-
  For every row, every int size and all Angles the statement RopeTurns answers true: awake does; Turn and Back are the document's; what is handed in stays; its card, tied to the program's text.
-/
import Derived.Test.YtkemaofclahaiaaDoorRoi
import Derived.Test.YtkemaofclahaiaaDoorRbb
import Derived.Test.YtkemaofclahaiaaDoorRbc
namespace Go.Proofs.YtkemaofclahaiaaDoor.RTurns
open Go.ChangeShapes Go.WideShapes Go.ChangeAt Go.RowKit Go.Lib Go.Maps

set_option maxHeartbeats 16000000 in
set_option maxRecDepth 100000 in
theorem walk (xv cv sv : Value) (xs cs ss : List Int) (size : Int) (w : World) (hS : Sin w) (hx : Rk .i8 (fun b => b < w.heap.size) w xv xs) (hc : Rk .i8 (fun b => b < w.heap.size) w cv cs) (hs : Rk .i8 (fun b => b < w.heap.size) w sv ss) (hsz : I64 size) :
    Calls Tryd.prog 3 #[xv, zV size, .agg #[cv, sv]] w fun e w' => e = .returned (.bool true) ∧ Fresh w w' := by
  obtain ⟨W0, hW0⟩ : ∃ W0, W0 = w.alloc (.cells #[cv, sv] 24) := ⟨_, rfl⟩
  have HF0 : Hid (Fresh w W0) := by show Fresh _ _; rw [hW0]; exact (Kept.refl _ w).alloc _
  have p1 : W0.heap[w.heap.size]? = some (.cells #[cv, sv] 24 (0, 0)) := by rw [hW0]; exact heap_alloc_new w _
  have HP : Hid (∀ W, Fresh W0 W → Bx W0 w.heap.size cv sv W) := fun W hF => by
    have q1 := hF.at p1 (fun e => e)
    exact ⟨⟨by rw [Lib.cell_of_heap q1]; rfl, by rw [Lib.cell_of_heap q1]; rfl⟩, hF⟩
  have HAW : Hid (Unit → _) := fun (_ : Unit) => awake_any W0 (hS.fresh HF0.out)
  have HR : Hid (∀ W, Fresh W0 W → Rk .i8 (fun b => b < w.heap.size) W xv xs ∧ Rk .i8 (fun b => b < w.heap.size) W cv cs ∧ Rk .i8 (fun b => b < w.heap.size) W sv ss) := fun W hF => by
    have := HF0.out.trans hF (fun _ _ e => e)
    exact ⟨hx.fresh this, hc.fresh this, hs.fresh this⟩
  have HSz : Hid (I64 size) := hsz
  have HN : Hid ((∀ sg, (toL sg xs size cs ss).length * kb .i8 ≤ 140737488351232) ∧ ∀ sg, ∀ z ∈ toL sg xs size cs ss, Fit .i8 z) := ⟨fun sg => by have := toL_len sg xs size cs ss; have := hx.many; simp [kb]; omega, fun sg => toL_c8 sg xs size cs ss⟩
  obtain ⟨xo, xc, hxv, _⟩ := hx.shape
  obtain ⟨co, cc, hcv, _⟩ := hc.shape
  obtain ⟨so, sc, hsv, _⟩ := hs.shape
  have HT1 : Hid (∀ Z, Fresh W0 Z → ∀ a0, _) := fun Z hZ a0 => twin0 ty8 22 Z a0 xv xs _ (HR.out Z hZ).1
  have HT2 : Hid (∀ Z, Fresh W0 Z → ∀ a0, _) := fun Z hZ a0 => twin0 ty8 22 Z a0 cv cs _ (HR.out Z hZ).2.1
  have HT3 : Hid (∀ Z, Fresh W0 Z → ∀ a0, _) := fun Z hZ a0 => twin0 ty8 22 Z a0 sv ss _ (HR.out Z hZ).2.2
  clear hS p1 hx hc hs hsz
  subst hxv hcv hsv
  go_enter Tryd.func3, Tryd.ntmps3
  go_wp2_with fail
  rw [← hW0]
  refine (HAW.out ()).mono ?_
  rintro e w1 ⟨rfl, hF1⟩
  have hB0 : Bx W0 w.heap.size _ _ w1.drew := (HP.out w1 hF1).drew
  clear HAW hF1 hW0
  go_upto_region 3 with fail
  go_cut [7, 8, 9] (fun av bv dv w' => ∃ a1 a2 b1 b2 d1 d2, av = .slice a1 xs.length a2 ∧ bv = .slice b1 cs.length b2 ∧ dv = .slice d1 ss.length d2 ∧ Hid (Fresh W0 w' ∧ Rk .i8 (fun _ => True) w' av xs ∧ Rk .i8 (fun _ => True) w' bv cs ∧ Rk .i8 (fun _ => True) w' dv ss))
  case first =>
    clear HR HN HP
    go_region_held3 (fun X => (X.cell? ⟨w.heap.size, 0, none⟩ = some (.slice co cs.length cc) ∧ X.cell? ⟨w.heap.size, 1, none⟩ = some (.slice so ss.length sc)) ∧ Fresh W0 X)
      (first | exact hB0 | exact hS1 | exact hS2 | exact hS3 | exact Bx.alloc (by assumption) _ | assumption)
      (first
        | (have hBw : Bx W0 w.heap.size (.slice co cs.length cc) (.slice so ss.length sc) _ := (by assumption); refine step_twin rfl _ _ _ _ rfl _ _ rfl (by rfl) _ (HT1.out _ hBw.2 _) ?_; rintro _ YA ⟨ta, tc, rfl, hFA, hRA⟩; have hS1 : Bx W0 w.heap.size (.slice co cs.length cc) (.slice so ss.length sc) YA := hBw.fresh hFA)
        | (have hBw : Bx W0 w.heap.size (.slice co cs.length cc) (.slice so ss.length sc) _ := (by assumption); refine step_twin rfl _ _ _ _ rfl _ _ rfl (by rfl) _ (HT2.out _ hBw.2 _) ?_; rintro _ YB ⟨tb, tbc, rfl, hFB, hRB⟩; have hS2 : Bx W0 w.heap.size (.slice co cs.length cc) (.slice so ss.length sc) YB := hBw.fresh hFB)
        | (have hBw : Bx W0 w.heap.size (.slice co cs.length cc) (.slice so ss.length sc) _ := (by assumption); refine step_twin rfl _ _ _ _ rfl _ _ rfl (by rfl) _ (HT3.out _ hBw.2 _) ?_; rintro _ YC ⟨td, tdc, rfl, hFC, hRC⟩; have hS3 : Bx W0 w.heap.size (.slice co cs.length cc) (.slice so ss.length sc) YC := hBw.fresh hFC))
    all_goals
      have hAB : Fresh YA YB := by first
        | exact hFB
        | exact ((Kept.refl (fun _ => False) YA).alloc _).trans hFB (fun _ _ e => e)
        | exact (((Kept.refl (fun _ => False) YA).alloc _).alloc _).trans hFB (fun _ _ e => e)
      have hBC : Fresh YB YC := by first
        | exact hFC
        | exact ((Kept.refl (fun _ => False) YB).alloc _).trans hFC (fun _ _ e => e)
      have HX : Hid (Fresh W0 YC ∧ Rk .i8 (fun _ => True) YC (.slice ta xs.length tc) xs ∧ Rk .i8 (fun _ => True) YC (.slice tb cs.length tbc) cs ∧ Rk .i8 (fun _ => True) YC (.slice td ss.length tdc) ss) := ⟨hS3.2, ((hRA.fresh hAB).fresh hBC).mono (fun _ _ => trivial), (hRB.fresh hBC).mono (fun _ _ => trivial), hRC.mono (fun _ _ => trivial)⟩
      clear hAB hBC hFA hFB hFC hRA hRB hRC hS1 hS2 hS3 hB0
      go_wp2
      go_meet
      case rel => exact ⟨_, _, _, _, _, _, rfl, rfl, rfl, HX.out⟩
  case rest =>
    obtain ⟨a1, a2, b1, b2, d1, d2, rfl, rfl, rfl, HA⟩ := hcut
    clear HT1 HT2 HT3 hB0
    have HFc : Hid (Fresh W0 wc) := HA.out.1
    have HK : Hid (∀ W, Fresh wc W → Fresh W0 W ∧ Rk .i8 (fun _ => True) W (.slice a1 xs.length a2) xs ∧ Rk .i8 (fun _ => True) W (.slice b1 cs.length b2) cs ∧ Rk .i8 (fun _ => True) W (.slice d1 ss.length d2) ss) := fun W hF => ⟨HA.out.1.trans hF (fun _ _ e => e), HA.out.2.1.fresh hF, HA.out.2.2.1.fresh hF, HA.out.2.2.2.fresh hF⟩
    have H1 : Hid (Unit → _) := fun (_ : Unit) => Turn_any _ _ _ _ _ _ xs cs ss size wc HA.out.2.1 HA.out.2.2.1 HA.out.2.2.2 HSz.out
    clear HA
    go_wp2_with fail
    refine (H1.out ()).mono ?_
    rintro e w2 hG
    obtain ⟨v2, rfl, hR2, hF2⟩ := hG.row (HN.out.1 1) (HN.out.2 1)
    have HF2 : Hid (Fresh wc w2) := hF2
    have HR2 : Hid (Rk .i8 (fun _ => True) w2 v2 (toL 1 xs size cs ss)) := hR2.mono (fun _ _ => trivial)
    have HQ : Hid _ := HR.out w2 (HK.out w2 hF2).1
    have H2 : Hid (Unit → _) := fun (_ : Unit) => refTurn_any _ _ _ _ _ _ xs cs ss size w2 HQ.out.1 HQ.out.2.1 HQ.out.2.2 HSz.out
    obtain ⟨⟨c1, c2⟩, _⟩ := HP.out w2 (HK.out w2 hF2).1
    clear H1 hG hR2 hF2 HQ
    go_wp2_with fail
    refine (H2.out ()).mono ?_
    rintro e w3 hG
    obtain ⟨v3, rfl, hR3, hF3⟩ := hG.row (HN.out.1 1) (HN.out.2 1)
    have HF3 : Hid (Fresh wc w3) := HF2.out.trans hF3 (fun _ _ e => e)
    have H3 : Hid (Unit → _) := fun (_ : Unit) => same_any _ _ _ _ _ w3 (HR2.out.fresh hF3) hR3
    clear H2 hG hR3 hF3 HF2 HR2 c1 c2
    go_wp2_with fail
    refine (H3.out ()).mono ?_
    rintro e w4 ⟨rfl, n4, hw4⟩
    have HF4 : Hid (Fresh wc w4) := by show Fresh _ _; rw [hw4]; exact HF3.out.drewN n4
    clear hw4 H3 HF3
    have HQ : Hid _ := HK.out w4 HF4.out
    have H5 : Hid (Unit → _) := fun (_ : Unit) => Back_any _ _ _ _ _ _ xs cs ss size w4 HQ.out.2.1 HQ.out.2.2.1 HQ.out.2.2.2 HSz.out
    clear HQ
    generalize hE : toE xs.length size cs.length ss.length = E' at *
    go_wp2_with fail
    refine (H5.out ()).mono ?_
    rintro e w5 hG
    obtain ⟨v5, rfl, hR5, hF5⟩ := hG.row (HN.out.1 (-1)) (HN.out.2 (-1))
    have HF5 : Hid (Fresh wc w5) := HF4.out.trans hF5 (fun _ _ e => e)
    have HR5 : Hid (Rk .i8 (fun _ => True) w5 v5 (toL (-1) xs size cs ss)) := hR5.mono (fun _ _ => trivial)
    have HQ : Hid _ := HR.out w5 (HK.out w5 HF5.out).1
    have H6 : Hid (Unit → _) := fun (_ : Unit) => refBack_any _ _ _ _ _ _ xs cs ss size w5 HQ.out.1 HQ.out.2.1 HQ.out.2.2 HSz.out
    obtain ⟨⟨c1, c2⟩, _⟩ := HP.out w5 (HK.out w5 HF5.out).1
    clear H5 hG hR5 hF5 HQ HF4
    rw [hE] at H6
    clear hE
    go_wp2_with fail
    refine (H6.out ()).mono ?_
    rintro e w6 hG
    obtain ⟨v6, rfl, hR6, hF6⟩ := hG.row (HN.out.1 (-1)) (HN.out.2 (-1))
    have HF6 : Hid (Fresh wc w6) := HF5.out.trans hF6 (fun _ _ e => e)
    have H7 : Hid (Unit → _) := fun (_ : Unit) => same_any _ _ _ _ _ w6 (HR5.out.fresh hF6) hR6
    clear H6 hG hR6 hF6 HF5 HR5 c1 c2
    go_wp2_with fail
    refine (H7.out ()).mono ?_
    rintro e w7 ⟨rfl, n7, hw7⟩
    have HF7 : Hid (Fresh wc w7) := by show Fresh _ _; rw [hw7]; exact HF6.out.drewN n7
    have H8 : Hid (Unit → _) := fun (_ : Unit) => same_any _ _ _ _ xs w7 (HK.out w7 HF7.out).2.1 (HR.out w7 (HK.out w7 HF7.out).1).1
    clear hw7 H7 HF6
    go_wp2_with fail
    refine (H8.out ()).mono ?_
    rintro e w8 ⟨rfl, n8, hw8⟩
    have HF8 : Hid (Fresh wc w8) := by show Fresh _ _; rw [hw8]; exact HF7.out.drewN n8
    have H9 : Hid (Unit → _) := fun (_ : Unit) => same_any _ _ _ _ cs w8 (HK.out w8 HF8.out).2.2.1 (HR.out w8 (HK.out w8 HF8.out).1).2.1
    obtain ⟨⟨c1, c2⟩, _⟩ := HP.out w8 (HK.out w8 HF8.out).1
    clear hw8 H8 HF7
    go_wp2_with fail
    refine (H9.out ()).mono ?_
    rintro e w9 ⟨rfl, n9, hw9⟩
    have HF9 : Hid (Fresh wc w9) := by show Fresh _ _; rw [hw9]; exact HF8.out.drewN n9
    have HA : Hid (Unit → _) := fun (_ : Unit) => same_any _ _ _ _ ss w9 (HK.out w9 HF9.out).2.2.2 (HR.out w9 (HK.out w9 HF9.out).1).2.2
    clear c1 c2
    obtain ⟨⟨c1, c2⟩, _⟩ := HP.out w9 (HK.out w9 HF9.out).1
    clear hw9 H9 HF8
    go_wp2_with fail
    refine (HA.out ()).mono ?_
    rintro e wa ⟨rfl, na, hwa⟩
    have HFa : Hid (Fresh w wa) := by show Fresh _ _; rw [hwa]; exact HF0.out.trans ((HFc.out.trans HF9.out (fun _ _ e => e)).drewN na) (fun _ _ e => e)
    clear hwa HA HF9 HK HR HP c1 c2
    go_wp2
    go_ret
    exact ⟨by simp, HFa.out⟩

set_option maxRecDepth 100000 in
theorem contract (H : Type) (enc : TypeId × Value → H) (W : World) (base : Nat) (args : Array Value) (ds gs : List (DataW H)) (before : List MemPlace)
    (hval : ∀ (j : Nat) t v, Tryd.f3.params[j]? = some t → args[j]? = some v → Value.okWide Tryd.prog W .any base t v)
    (hW : DataW.Whole enc Tryd.prog Tryd.f3.params.toList Rows.ropeTurnsSpec.vars false W args.toList ds gs before) 
    (hsz : (DataW.weightsEach Tryd.prog (Tryd.f3.params.toList ++ []) (ds ++ gs)).all (· ≤ reachBytes) = true) (hL : laidMetH Tryd.prog Rows.ropeTurnsRow.laid W) :
    Calls Tryd.prog 3 args W fun e W' => ∃ v, e = .returned v ∧ Rows.ropeTurnsSpec.post enc Tryd.prog Tryd.f3 false true false false W args v W' := by
  have hW' := hW
  obtain ⟨p, q, hA0, hV, rfl, hfz, hnd⟩ := hW
  have hA : DataW.TrodAll enc Tryd.prog W 0 (fun _ => true) true Tryd.f3.params.toList args.toList ds p := hA0
  rw [Tryd.params3] at hA hval hsz
  obtain ⟨rfl, rfl⟩ := trodVars_none hV
  obtain ⟨v0, v1, v2, d0, d1, d2, p0, p1, p2, rfl, rfl, rfl, h0, h1, h2⟩ := trodAll_three hA
  obtain ⟨xs, hx⟩ := arg8 (hval 0 22 v0 rfl rfl) h0 hsz (j := 0) rfl rfl
  obtain ⟨x1, rfl, rfl, rfl, w1⟩ := open_int Tryd.underlying3 (hval 1 3 v1 rfl rfl) h1
  obtain ⟨cv, sv, cs, ss, rfl, hc, hs⟩ := angles_of (hval 2 24 v2 rfl rfl) h2 hsz (j := 2) rfl rfl
  refine (walk v0 cv sv xs cs ss x1 W (sin_of_laid hL) hx hc hs (i64_of w1)).mono fun e W' ⟨he, hk⟩ => ?_
  subst he
  exact ⟨_, rfl, post_law rfl (by kernel_rfl) (by kernel_rfl) hW' rfl hk⟩

set_option maxRecDepth 100000 in
theorem laid_met (os : Os) : laidMet Tryd.prog Rows.ropeTurnsRow.laid ((layIn (World.holding Tryd.prog os ⟨#[], #[], []⟩)).forCall (fun _ _ => 0) ⟨#[], #[.slice none 0 0, .int .i64 0, .agg #[.slice none 0 0, .slice none 0 0]], []⟩).memory :=
  laidMet_of_run' 8 (by kernel_rfl) (by kernel_rfl)
set_option maxRecDepth 100000 in
theorem reads (os : Os) {H : Type} (enc : TypeId × Value → H) : ∃ places, DataW.whole enc Tryd.prog ((layIn (World.holding Tryd.prog os ⟨#[], #[], []⟩)).forCall (fun _ _ => 0) ⟨#[], #[.slice none 0 0, .int .i64 0, .agg #[.slice none 0 0, .slice none 0 0]], []⟩).memory Tryd.f3.params.toList Rows.ropeTurnsSpec.vars false (#[.slice none 0 0, .int .i64 0, .agg #[.slice none 0 0, .slice none 0 0]] : Array Value).toList 8 = some ([.nil, .lit (.int .i64 0), .agg [.nil, .nil]], [], places) :=
  ⟨[], by kernel_rfl⟩

set_option maxRecDepth 100000 in
theorem lifted (os : Os) (started : os.Started) (H : Type) (enc : TypeId × Value → H) (F : Stop.Interp) :
    ReturnsInHanded {} Tryd.checked os 3 .any ((OpenSpec.ofChange Rows.ropeTurnsSpec).preRow enc Tryd.prog Tryd.f3 Rows.ropeTurnsRow.domain false Rows.ropeTurnsRow.laid) (((OpenSpec.ofChange Rows.ropeTurnsSpec).at F).post enc Tryd.prog Tryd.f3 false true false false) := by
  obtain ⟨places, hx⟩ := reads os enc
  refine returnsInHanded_of_row (C := Tryd.checked) (s := OpenSpec.ofChange Rows.ropeTurnsSpec) Tryd.own started (by kernel_rfl) Tryd.func3
    (witness_row_at (enc := enc) (C := Tryd.checked) false (layIn (World.holding Tryd.prog os ⟨#[], #[], []⟩)) #[.slice none 0 0, .int .i64 0, .agg #[.slice none 0 0, .slice none 0 0]] rfl (by kernel_rfl) (by kernel_rfl) (by kernel_rfl)
      (OpenSpec.preRow_of_cond 8 hx (by kernel_rfl) (fun k hk => by cases hk) (by kernel_rfl) (laid_met os))) ?_
  intro W base args ds gs before hval hW _ hc hsz hL _ _
  exact contract H enc W base args ds gs before hval hW hsz hL

theorem said : Rows.RopeTurnsSaid :=
  OpenClaim.holds_of_cond 3 Tryd.f3 rfl rfl rfl rfl rfl rfl rfl ⟨rfl, rfl, rfl, rfl, rfl⟩ rfl rfl rfl rfl rfl (by kernel_rfl) Tryd.func3 (by kernel_rfl)
    (of_decide_eq_true (by kernel_rfl)) (by unfold Func.isWrapper; first | (rw [if_pos (by decide +kernel)]; kernel_rfl) | (rw [if_neg (by decide +kernel)]; exact ⟨rfl, rfl⟩))
    (fun os started H enc _ F => by rw [OpenClaim.pre_eq_preRow]; exact lifted os started H enc F)

theorem plain (f : FuncId) (fn : Func) (hf : Tryd.pinned.checked.prog.funcNamed Rows.ropeTurnsRow.func = some f) (hfn : Tryd.pinned.checked.prog.funcs[f]? = some fn) :
    false = Tryd.pinned.checked.prog.looks [] ∧ ∀ (j : Nat) t, fn.params[j]? = some t → Tryd.pinned.checked.prog.wantsStandIn t = false := by
  obtain rfl : f = 3 := Option.some.inj ((show Tryd.prog.funcNamed Rows.ropeTurnsRow.func = some 3 by kernel_rfl).symm.trans hf) |>.symm
  obtain rfl : fn = Tryd.f3 := (Option.some.inj (Tryd.func3.symm.trans hfn)).symm
  refine ⟨by kernel_rfl, fun j t ht => ?_⟩
  have hall : (Tryd.f3.params.toList.all fun u => !Tryd.prog.wantsStandIn u) = true := by kernel_rfl
  exact (show Tryd.prog.wantsStandIn t = false by simpa using List.all_eq_true.1 hall t (Array.mem_toList_iff.2 (Array.mem_of_getElem? ht)))

theorem card : Rows.RopeTurnsCardSaid :=
  Claim7.holds_tied_plain_at .later [] _ _ _ _ said (fun _ h => by cases h) (by kernel_rfl) (fun _ h => by cases h) ropeTurns_row_tie rfl ⟨rfl, rfl⟩ (by kernel_rfl) rfl plain (by kernel_rfl)

end Go.Proofs.YtkemaofclahaiaaDoor.RTurns
namespace Go.Proofs.YtkemaofclahaiaaDoor
theorem ropeTurns_card : Rows.RopeTurnsCardSaid := RTurns.card
end Go.Proofs.YtkemaofclahaiaaDoor
