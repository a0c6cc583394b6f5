/-
  For every bend and every two lists the statement ActGates answers true: awake does; Gate is the document's; the three lists stay as they are; its card, tied to the program's text.
-/
import Derived.Test.YtbppahmcjifflaaDoorAci
import Derived.Test.YtbppahmcjifflaaDoorAcd
namespace Go.Proofs.YtbppahmcjifflaaDoor.AGates
open Go.ChangeShapes Go.WideShapes Go.ChangeAt Go.RowKit Go.Lib Go.Maps

set_option maxHeartbeats 2000000 in
set_option maxRecDepth 100000 in
theorem walk (bv gv uv : Value) (b g u : List Int) (w : World) (hB : Bend w) (hb : Rk .i8 (fun x => x < w.heap.size) w bv b) (hg : Rk .i8 (fun x => x < w.heap.size) w gv g) (hu : Rk .i8 (fun x => x < w.heap.size) w uv u) :
    Calls Tryd.prog 4 #[bv, gv, uv] w fun e w' => e = .returned (.bool true) ∧ Fresh w w' := by
  have HAW : Hid (Unit → _) := fun (_ : Unit) => awake_any w hB
  have HB : Hid (∀ W, Fresh w W → Rk .i8 (fun x => x < w.heap.size) W bv b ∧ Rk .i8 (fun x => x < w.heap.size) W gv g ∧ Rk .i8 (fun x => x < w.heap.size) W uv u) := fun W hF => ⟨hb.fresh hF, hg.fresh hF, hu.fresh hF⟩
  obtain ⟨ao, ac, rfl, _⟩ := hb.shape
  obtain ⟨co, cc, rfl, _⟩ := hg.shape
  obtain ⟨eo, ec, rfl, _⟩ := hu.shape
  clear hb hg hu hB
  go_enter Tryd.func4, Tryd.ntmps4
  go_wp2_with fail
  refine (HAW.out ()).mono ?_
  rintro e w0 ⟨rfl, hF0⟩
  clear HAW
  obtain ⟨t1, W1, hr1, hF1, hR1⟩ := copy_of ty8 (HB.out w0 hF0).1
  have hF1' : Fresh w W1 := hF0.trans hF1 (fun _ _ e => e)
  obtain ⟨t2, W2, hr2, hF2, hR2⟩ := copy_of ty8 (HB.out W1 hF1').2.1
  have hF2' : Fresh w W2 := hF1'.trans hF2 (fun _ _ e => e)
  obtain ⟨t3, W3, hr3, hF3, hR3⟩ := copy_of ty8 (HB.out W2 hF2').2.2
  have hF3' : Fresh w W3 := hF2'.trans hF3 (fun _ _ e => e)
  have HL : Hid (∀ W, Fresh W3 W → (Rk .i8 _ W _ b ∧ Rk .i8 _ W t1 b) ∧ (Rk .i8 _ W _ g ∧ Rk .i8 _ W t2 g) ∧ (Rk .i8 _ W _ u ∧ Rk .i8 _ W t3 u)) := fun W hF => ⟨⟨(HB.out W (hF3'.trans hF (fun _ _ e => e))).1, ((hR1.fresh hF2).fresh hF3).fresh hF⟩, ⟨(HB.out W (hF3'.trans hF (fun _ _ e => e))).2.1, (hR2.fresh hF3).fresh hF⟩, (HB.out W (hF3'.trans hF (fun _ _ e => e))).2.2, hR3.fresh hF⟩
  have HF3 : Hid (Fresh w W3) := hF3'
  obtain ⟨ao1, ac1, rfl, _⟩ := hR1.shape
  obtain ⟨ao2, ac2, rfl, _⟩ := hR2.shape
  obtain ⟨ao3, ac3, rfl, _⟩ := hR3.shape
  have H1 : Hid (Unit → _) := fun (_ : Unit) => Gate_any _ _ _ _ _ _ b g u W3 (HL.out W3 (Kept.refl _ _)).1.2 (HL.out W3 (Kept.refl _ _)).2.1.2 (HL.out W3 (Kept.refl _ _)).2.2.2
  have HQ : Hid ((gaL b g u).length * kb .i8 ≤ 140737488351232 ∧ ∀ z ∈ gaL b g u, Fit .i8 z) := ⟨by have := gaL_len b g u; simp [kb]; omega, gaL_c8 _ _ _⟩
  clear hR1 hR2 hR3 hF1 hF2 hF3 hF1' hF2' hF3' HB hF0
  go_wp2_with (at_builtin; first | (refine Lib.wpList_append_run _ rfl _ _ _ _ rfl _ _ rfl rfl _ _ hr1 ?_; clear hr1) | (refine Lib.wpList_append_run _ rfl _ _ _ _ rfl _ _ rfl rfl _ _ hr2 ?_; clear hr2) | (refine Lib.wpList_append_run _ rfl _ _ _ _ rfl _ _ rfl rfl _ _ hr3 ?_; clear hr3))
  refine (H1.out ()).mono ?_
  rintro e w2 hg2
  obtain ⟨v2, rfl, hr2, hF2⟩ := hg2.row HQ.out.1 HQ.out.2
  clear hg2 H1
  have HF2 : Hid (Fresh W3 w2) := hF2
  have HR2 : Hid (∀ W, Fresh w2 W → _) := fun W hF => hr2.fresh (W' := W) hF
  have H2 : Hid (Unit → _) := fun (_ : Unit) => refGate_any _ _ _ _ _ _ b g u w2 (HL.out w2 hF2).1.1 (HL.out w2 hF2).2.1.1 (HL.out w2 hF2).2.2.1
  clear hr2 hF2
  go_wp2_with fail
  refine (H2.out ()).mono ?_
  rintro e w3 hg3
  obtain ⟨v3, rfl, hr3, hF3⟩ := hg3.row HQ.out.1 HQ.out.2
  clear hg3 H2
  have HF3b : Hid (Fresh W3 w3) := HF2.out.trans hF3 (fun _ _ e => e)
  have H3 : Hid (Unit → _) := fun (_ : Unit) => same8_any _ _ _ _ (gaL b g u) w3 (HR2.out w3 hF3) hr3
  clear hr3 hF3 HF2 HR2 HQ
  generalize gaE b.length g.length u.length = E at *
  go_wp2_with fail
  refine (H3.out ()).mono ?_
  rintro e w4 ⟨rfl, n4, hw4⟩
  have HF4 : Hid (Fresh W3 w4) := by show Fresh _ _; rw [hw4]; exact HF3b.out.drewN n4
  have H4 : Hid (Unit → _) := fun (_ : Unit) => same8_any _ _ _ _ b w4 (HL.out w4 HF4.out).1.2 (HL.out w4 HF4.out).1.1
  clear hw4 H3 HF3b
  go_wp2_with fail
  refine (H4.out ()).mono ?_
  rintro e w5 ⟨rfl, n5, hw5⟩
  have HF5 : Hid (Fresh W3 w5) := by show Fresh _ _; rw [hw5]; exact HF4.out.drewN n5
  have H5 : Hid (Unit → _) := fun (_ : Unit) => same8_any _ _ _ _ g w5 (HL.out w5 HF5.out).2.1.2 (HL.out w5 HF5.out).2.1.1
  clear hw5 H4 HF4
  go_wp2_with fail
  refine (H5.out ()).mono ?_
  rintro e w6 ⟨rfl, n6, hw6⟩
  have HF6 : Hid (Fresh W3 w6) := by show Fresh _ _; rw [hw6]; exact HF5.out.drewN n6
  have H6 : Hid (Unit → _) := fun (_ : Unit) => same8_any _ _ _ _ u w6 (HL.out w6 HF6.out).2.2.2 (HL.out w6 HF6.out).2.2.1
  clear hw6 H5 HF5 HL
  go_wp2_with fail
  refine (H6.out ()).mono ?_
  rintro e w7 ⟨rfl, n7, hw7⟩
  have HF7 : Hid (Fresh w w7) := by show Fresh _ _; rw [hw7]; exact HF3.out.trans (HF6.out.drewN n7) (fun _ _ e => e)
  clear hw7 H6 HF6
  go_wp2
  go_ret
  exact ⟨by simp, HF7.out⟩

set_option maxRecDepth 100000 in
theorem contract (H : Type) (enc : TypeId × Value → H) (W : World) (base : Nat) (args : Array Value) (ds gs : List (DataW H)) (before : List MemPlace)
    (hval : ∀ (j : Nat) t v, Tryd.f4.params[j]? = some t → args[j]? = some v → Value.okWide Tryd.prog W .any base t v)
    (hW : DataW.Whole enc Tryd.prog Tryd.f4.params.toList Rows.actGatesSpec.vars false W args.toList ds gs before) 
    (hsz : (DataW.weightsEach Tryd.prog (Tryd.f4.params.toList ++ []) (ds ++ gs)).all (· ≤ reachBytes) = true) (hL : laidMetH Tryd.prog Rows.actGatesRow.laid W) :
    Calls Tryd.prog 4 args W fun e W' => ∃ v, e = .returned v ∧ Rows.actGatesSpec.post enc Tryd.prog Tryd.f4 false true false false W args v W' := by
  have hW' := hW
  obtain ⟨p, q, hA0, hV, rfl, hfz, hnd⟩ := hW
  have hA : DataW.TrodAll enc Tryd.prog W 0 (fun _ => true) true Tryd.f4.params.toList args.toList ds p := hA0
  rw [Tryd.params4] at hA hval hsz
  obtain ⟨rfl, rfl⟩ := trodVars_none hV
  obtain ⟨v0, v1, v2, d0, d1, d2, p0, p1, p2, rfl, rfl, rfl, h0, h1, h2⟩ := trodAll_three hA
  obtain ⟨b, hb⟩ := arg8 (hval 0 23 v0 rfl rfl) h0 hsz (j := 0) rfl rfl
  obtain ⟨g, hg⟩ := arg8 (hval 1 23 v1 rfl rfl) h1 hsz (j := 1) rfl rfl
  obtain ⟨u, hu⟩ := arg8 (hval 2 23 v2 rfl rfl) h2 hsz (j := 2) rfl rfl
  refine (walk v0 v1 v2 b g u W (bend_of_laid hL) hb hg hu).mono fun e W' ⟨he, hk⟩ => ?_
  subst he
  exact ⟨_, rfl, post_law rfl (by kernel_rfl) (by kernel_rfl) hW' rfl hk⟩

set_option maxRecDepth 100000 in
theorem laid_met (os : Os) : laidMet Tryd.prog Rows.actGatesRow.laid ((layIn (World.holding Tryd.prog os ⟨#[], #[], []⟩)).forCall (fun _ _ => 0) ⟨#[], #[.slice none 0 0, .slice none 0 0, .slice none 0 0], []⟩).memory :=
  laidMet_of_run' 8 (by kernel_rfl) (by kernel_rfl)
set_option maxRecDepth 100000 in
theorem reads (os : Os) {H : Type} (enc : TypeId × Value → H) : ∃ places, DataW.whole enc Tryd.prog ((layIn (World.holding Tryd.prog os ⟨#[], #[], []⟩)).forCall (fun _ _ => 0) ⟨#[], #[.slice none 0 0, .slice none 0 0, .slice none 0 0], []⟩).memory Tryd.f4.params.toList Rows.actGatesSpec.vars false (#[.slice none 0 0, .slice none 0 0, .slice none 0 0] : Array Value).toList 8 = some ([.nil, .nil, .nil], [], places) :=
  ⟨[], by kernel_rfl⟩

set_option maxRecDepth 100000 in
theorem lifted (os : Os) (started : os.Started) (H : Type) (enc : TypeId × Value → H) (F : Stop.Interp) :
    ReturnsInHanded {} Tryd.checked os 4 .any ((OpenSpec.ofChange Rows.actGatesSpec).preRow enc Tryd.prog Tryd.f4 Rows.actGatesRow.domain false Rows.actGatesRow.laid) (((OpenSpec.ofChange Rows.actGatesSpec).at F).post enc Tryd.prog Tryd.f4 false true false false) := by
  obtain ⟨places, hx⟩ := reads os enc
  refine returnsInHanded_of_row (C := Tryd.checked) (s := OpenSpec.ofChange Rows.actGatesSpec) Tryd.own started (by kernel_rfl) Tryd.func4
    (witness_row_at (enc := enc) (C := Tryd.checked) false (layIn (World.holding Tryd.prog os ⟨#[], #[], []⟩)) #[.slice none 0 0, .slice none 0 0, .slice none 0 0] rfl (by kernel_rfl) (by kernel_rfl) (by kernel_rfl)
      (OpenSpec.preRow_of_cond 8 hx (by kernel_rfl) (fun k hk => by cases hk) (by kernel_rfl) (laid_met os))) ?_
  intro W base args ds gs before hval hW _ hc hsz hL _ _
  exact contract H enc W base args ds gs before hval hW hsz hL

theorem said : Rows.ActGatesSaid :=
  OpenClaim.holds_of_cond 4 Tryd.f4 rfl rfl rfl rfl rfl rfl rfl ⟨rfl, rfl, rfl, rfl, rfl⟩ rfl rfl rfl rfl rfl (by kernel_rfl) Tryd.func4 (by kernel_rfl)
    (of_decide_eq_true (by kernel_rfl)) (by unfold Func.isWrapper; first | (rw [if_pos (by decide +kernel)]; kernel_rfl) | (rw [if_neg (by decide +kernel)]; exact ⟨rfl, rfl⟩))
    (fun os started H enc _ F => by rw [OpenClaim.pre_eq_preRow]; exact lifted os started H enc F)

theorem plain (f : FuncId) (fn : Func) (hf : Tryd.pinned.checked.prog.funcNamed Rows.actGatesRow.func = some f) (hfn : Tryd.pinned.checked.prog.funcs[f]? = some fn) :
    false = Tryd.pinned.checked.prog.looks [] ∧ ∀ (j : Nat) t, fn.params[j]? = some t → Tryd.pinned.checked.prog.wantsStandIn t = false := by
  obtain rfl : f = 4 := Option.some.inj ((show Tryd.prog.funcNamed Rows.actGatesRow.func = some 4 by kernel_rfl).symm.trans hf) |>.symm
  obtain rfl : fn = Tryd.f4 := (Option.some.inj (Tryd.func4.symm.trans hfn)).symm
  refine ⟨by kernel_rfl, fun j t ht => ?_⟩
  have hall : (Tryd.f4.params.toList.all fun u => !Tryd.prog.wantsStandIn u) = true := by kernel_rfl
  exact (show Tryd.prog.wantsStandIn t = false by simpa using List.all_eq_true.1 hall t (Array.mem_toList_iff.2 (Array.mem_of_getElem? ht)))

theorem card : Rows.ActGatesCardSaid :=
  Claim7.holds_tied_plain_at .later [] _ _ _ _ said (fun _ h => by cases h) (by kernel_rfl) (fun _ h => by cases h) actGates_row_tie rfl ⟨rfl, rfl⟩ (by kernel_rfl) rfl plain (by kernel_rfl)

end Go.Proofs.YtbppahmcjifflaaDoor.AGates
namespace Go.Proofs.YtbppahmcjifflaaDoor
theorem actGates_card : Rows.ActGatesCardSaid := AGates.card
end Go.Proofs.YtbppahmcjifflaaDoor
