/-
  For every row, every list of gains and every list of biases the statement NormCenters answers true: awake does; Center, Layer and Largest are the document's; the row stays as it is.
-/
import Derived.Test.YtibbifklnimlcabNos
import Derived.Test.YtibbifklnimlcabNoe
import Derived.Test.YtibbifklnimlcabNof
namespace Go.Proofs.Ytibbifklnimlcab.Centers9
open Go.ChangeShapes Go.WideShapes Go.ChangeAt Go.RowKit Go.Lib Go.Maps

set_option maxHeartbeats 8000000 in
set_option maxRecDepth 100000 in
theorem walk (lv gv bv : Value) (zs gs bs : List Int) (w : World) (hl : Rk .i64 (fun b => b < w.heap.size) w lv zs) (hg : Rk .i8 (fun b => b < w.heap.size) w gv gs) (hb : Rk .i8 (fun b => b < w.heap.size) w bv bs) :
    Calls Try.prog 3 #[lv, gv, bv] w fun e w' => e = .returned (.bool true) ∧ Fresh w w' := by
  have HAW : Hid (∀ W : World, _) := fun (W : World) => awake_any W
  obtain ⟨t, W1, hr1, hF1, hR1⟩ := copy_of ty64 hl
  have HL : Hid (∀ W, Fresh W1 W → (Rk .i64 (fun b => b < w.heap.size) W lv zs ∧ Rk .i64 (fun b => w.heap.size ≤ b ∧ b < W1.heap.size) W t zs) ∧ (Rk .i8 (fun b => b < w.heap.size) W gv gs ∧ Rk .i8 (fun b => b < w.heap.size) W bv bs)) := fun W hF => ⟨⟨hl.fresh (hF1.trans hF (fun _ _ e => e)), hR1.fresh hF⟩, hg.fresh (hF1.trans hF (fun _ _ e => e)), hb.fresh (hF1.trans hF (fun _ _ e => e))⟩
  have H1 : Hid (Unit → _) := fun (_ : Unit) => Center_any _ _ _ W1 (HL.out W1 (Kept.refl _ _)).1.1
  have HF1 : Hid (Fresh w W1) := hF1
  have HCl : Hid ((coL zs).length * kb .i64 ≤ 140737488351232 ∧ ∀ z ∈ coL zs, Fit .i64 z) := ⟨by have := coL_len zs; simp only [kb]; omega, coL_fit zs⟩
  have HLl : Hid ((laL zs gs bs).length * kb .i8 ≤ 140737488351232 ∧ ∀ z ∈ laL zs gs bs, Fit .i8 z) := ⟨by have := laL_len zs gs bs; simp only [kb]; omega, laL_fit zs gs bs⟩
  obtain ⟨ao, ac, rfl, _⟩ := hl.shape
  obtain ⟨bo, bc, rfl, _⟩ := hR1.shape
  obtain ⟨co, cc, rfl, _⟩ := hg.shape
  obtain ⟨do_, dc, rfl, _⟩ := hb.shape
  clear hl hR1 hF1 hg hb
  go_enter Try.func3, Try.ntmps3
  go_wp2_with (at_builtin; refine Lib.wpList_append_run _ rfl _ _ _ _ rfl _ _ rfl rfl _ _ hr1 ?_)
  refine (H1.out ()).mono ?_
  rintro e w2 hG
  obtain ⟨v2, rfl, hR2, hF2⟩ := hG.row HCl.out.1 HCl.out.2
  have HF2 : Hid (Fresh W1 w2) := hF2
  have HR2 : Hid (Rk .i64 (fun b => W1.heap.size ≤ b ∧ b < w2.heap.size) w2 v2 (coL zs)) := hR2
  have H2 : Hid (Unit → _) := fun (_ : Unit) => refCenter_any _ _ _ w2 (HL.out w2 hF2).1.2
  clear H1 hF2 hG hR2 hr1
  go_wp2_with fail
  refine (H2.out ()).mono ?_
  rintro e w3 hG
  obtain ⟨v3, rfl, hR3, hF3⟩ := hG.row HCl.out.1 HCl.out.2
  have HF3 : Hid (Fresh W1 w3) := HF2.out.trans hF3 (fun _ _ e => e)
  have HR3 : Hid (∀ W, Fresh w3 W → Rk .i64 (fun b => W1.heap.size ≤ b ∧ b < w2.heap.size) W v2 (coL zs) ∧ Rk .i64 (fun b => w2.heap.size ≤ b ∧ b < w3.heap.size) W v3 (coL zs)) := fun W hF => ⟨(HR2.out.fresh hF3).fresh hF, hR3.fresh hF⟩
  have H3 : Hid (Unit → _) := fun (_ : Unit) => Layer_any _ _ _ _ _ _ _ _ _ w3 (HL.out w3 HF3.out).1.1 (HL.out w3 HF3.out).2.1 (HL.out w3 HF3.out).2.2
  clear H2 HF2 hF3 hG hR3 HR2
  go_wp2_with fail
  refine (H3.out ()).mono ?_
  rintro e w4 hG
  obtain ⟨v4, rfl, hR4, hF4⟩ := hG.row HLl.out.1 HLl.out.2
  have HF34 : Hid (Fresh w3 w4) := hF4
  have HF4 : Hid (Fresh W1 w4) := HF3.out.trans hF4 (fun _ _ e => e)
  have HR4 : Hid (Rk .i8 (fun b => w3.heap.size ≤ b ∧ b < w4.heap.size) w4 v4 (laL zs gs bs)) := hR4
  have H4 : Hid (Unit → _) := fun (_ : Unit) => refLayer_any _ _ _ _ _ _ _ _ _ w4 (HL.out w4 HF4.out).1.2 (HL.out w4 HF4.out).2.1 (HL.out w4 HF4.out).2.2
  clear H3 hF4 hG hR4 HF3
  go_wp2_with fail
  refine (H4.out ()).mono ?_
  rintro e w5 hG
  obtain ⟨v5, rfl, hR5, hF5⟩ := hG.row HLl.out.1 HLl.out.2
  have HF5 : Hid (Fresh W1 w5 ∧ Fresh w3 w5) := ⟨HF4.out.trans hF5 (fun _ _ e => e), HF34.out.trans hF5 (fun _ _ e => e)⟩
  have HR5 : Hid (∀ W, Fresh w5 W → Rk .i8 (fun b => w3.heap.size ≤ b ∧ b < w4.heap.size) W v4 (laL zs gs bs) ∧ Rk .i8 (fun b => w4.heap.size ≤ b ∧ b < w5.heap.size) W v5 (laL zs gs bs)) := fun W hF => ⟨(HR4.out.fresh hF5).fresh hF, hR5.fresh hF⟩
  have H5 : Hid (Unit → _) := fun (_ : Unit) => Largest_any _ _ _ w5 (HL.out w5 HF5.out.1).1.1
  clear H4 hF5 hG hR5 HF4 HF34 HR4
  go_wp2_with fail
  refine (H5.out ()).mono ?_
  rintro e w6 ⟨rfl, hF6⟩
  have HF6 : Hid (Fresh W1 w6 ∧ Fresh w5 w6) := ⟨HF5.out.1.trans hF6 (fun _ _ e => e), hF6⟩
  have H6 : Hid (Unit → _) := fun (_ : Unit) => refLargest_any _ _ _ w6 (HL.out w6 HF6.out.1).1.2
  clear H5 hF6
  go_wp2_with fail
  refine (H6.out ()).mono ?_
  rintro e w7 ⟨rfl, hF7⟩
  have HF7 : Hid (Fresh W1 w7 ∧ Fresh w5 w7) := ⟨HF6.out.1.trans hF7 (fun _ _ e => e), HF6.out.2.trans hF7 (fun _ _ e => e)⟩
  clear H6 hF7 HF6
  go_wp2_with fail
  refine (HAW.out _).mono ?_
  rintro e w8 ⟨rfl, hF8⟩
  have HF8 : Hid (Fresh W1 w8 ∧ Fresh w5 w8) := ⟨HF7.out.1.trans hF8 (fun _ _ e => e), HF7.out.2.trans hF8 (fun _ _ e => e)⟩
  have H8 : Hid (Unit → _) := fun (_ : Unit) => longs_any _ _ _ _ _ w8 (HR3.out w8 (HF5.out.2.trans HF8.out.2 (fun _ _ e => e))).1 (HR3.out w8 (HF5.out.2.trans HF8.out.2 (fun _ _ e => e))).2
  clear hF8 HF7 HAW HR3 HF5
  generalize coM zs = CM at *
  generalize nE zs = E at *
  generalize laE zs gs bs = E2 at *
  generalize lgV zs = LV at *
  generalize lgA zs = LA at *
  go_wp2_with fail
  refine (H8.out ()).mono ?_
  rintro e w9 ⟨rfl, n9, hw9⟩
  have HF9 : Hid (Fresh W1 w9 ∧ Fresh w5 w9) := by show _ ∧ _; rw [hw9]; exact ⟨HF8.out.1.drewN n9, HF8.out.2.drewN n9⟩
  have H9 : Hid (Unit → _) := fun (_ : Unit) => rows_any _ _ _ _ _ w9 (HR5.out w9 HF9.out.2).1 (HR5.out w9 HF9.out.2).2
  clear hw9 H8 HF8 HR5
  go_wp2_with fail
  refine (H9.out ()).mono ?_
  rintro e w10 ⟨rfl, n10, hw10⟩
  have HF10 : Hid (Fresh W1 w10) := by show Fresh _ _; rw [hw10]; exact HF9.out.1.drewN n10
  have H10 : Hid (Unit → _) := fun (_ : Unit) => longs_any _ _ _ _ zs w10 (HL.out w10 HF10.out).1.1 (HL.out w10 HF10.out).1.2
  clear hw10 H9 HF9 HL
  go_wp2_with fail
  refine (H10.out ()).mono ?_
  rintro e w11 ⟨rfl, n11, hw11⟩
  have HF11 : Hid (Fresh w w11) := by show Fresh _ _; rw [hw11]; exact HF1.out.trans (HF10.out.drewN n11) (fun _ _ e => e)
  clear hw11 H10 HF10 HCl HLl
  go_wp2
  go_ret
  exact ⟨by simp, HF11.out⟩

set_option maxRecDepth 100000 in
theorem contract (H : Type) (enc : TypeId × Value → H) (W : World) (base : Nat) (args : Array Value) (ds gs : List (DataW H)) (before : List MemPlace)
    (hval : ∀ (j : Nat) t v, Try.f3.params[j]? = some t → args[j]? = some v → Value.okWide Try.prog W .any base t v)
    (hW : DataW.Whole enc Try.prog Try.f3.params.toList Rows.normCentersSpec.vars false W args.toList ds gs before) 
    (hsz : (DataW.weightsEach Try.prog (Try.f3.params.toList ++ []) (ds ++ gs)).all (· ≤ reachBytes) = true) (hL : laidMetH Try.prog Rows.normCentersRow.laid W) :
    Calls Try.prog 3 args W fun e W' => ∃ v, e = .returned v ∧ Rows.normCentersSpec.post enc Try.prog Try.f3 false true false false W args v W' := by
  have hW' := hW
  obtain ⟨p, q, hA0, hV, rfl, hfz, hnd⟩ := hW
  have hA : DataW.TrodAll enc Try.prog W 0 (fun _ => true) true Try.f3.params.toList args.toList ds p := hA0
  rw [Try.params3] at hA hval hsz
  obtain ⟨rfl, rfl⟩ := trodVars_none hV
  have _hL := hL
  obtain ⟨v0, v1, v2, d0, d1, d2, p0, p1, p2, rfl, rfl, rfl, h0, h1, h2⟩ := trodAll_three hA
  obtain ⟨zs, hz⟩ := arg64 (hval 0 22 v0 rfl rfl) h0 hsz (j := 0) rfl rfl
  obtain ⟨gs, hg⟩ := arg8 (hval 1 23 v1 rfl rfl) h1 hsz (j := 1) rfl rfl
  obtain ⟨bs, hb⟩ := arg8 (hval 2 23 v2 rfl rfl) h2 hsz (j := 2) rfl rfl
  refine (walk v0 v1 v2 zs gs bs W hz hg hb).mono fun e W' ⟨he, hk⟩ => ?_
  subst he
  exact ⟨_, rfl, post_law rfl (by kernel_rfl) (by kernel_rfl) hW' rfl hk⟩

set_option maxRecDepth 100000 in
theorem laid_met (os : Os) : laidMet Try.prog Rows.normCentersRow.laid ((layIn (World.holding Try.prog os ⟨#[], #[], []⟩)).forCall (fun _ _ => 0) ⟨#[], #[.slice none 0 0, .slice none 0 0, .slice none 0 0], []⟩).memory :=
  laidMet_of_run' 8 (by kernel_rfl) (by kernel_rfl)
set_option maxRecDepth 100000 in
theorem reads (os : Os) {H : Type} (enc : TypeId × Value → H) : ∃ places, DataW.whole enc Try.prog ((layIn (World.holding Try.prog os ⟨#[], #[], []⟩)).forCall (fun _ _ => 0) ⟨#[], #[.slice none 0 0, .slice none 0 0, .slice none 0 0], []⟩).memory Try.f3.params.toList Rows.normCentersSpec.vars false (#[.slice none 0 0, .slice none 0 0, .slice none 0 0] : Array Value).toList 8 = some ([.nil, .nil, .nil], [], places) :=
  ⟨[], by kernel_rfl⟩

set_option maxRecDepth 100000 in
theorem lifted (os : Os) (started : os.Started) (H : Type) (enc : TypeId × Value → H) (F : Stop.Interp) :
    ReturnsInHanded {} Try.checked os 3 .any ((OpenSpec.ofChange Rows.normCentersSpec).preRow enc Try.prog Try.f3 Rows.normCentersRow.domain false Rows.normCentersRow.laid) (((OpenSpec.ofChange Rows.normCentersSpec).at F).post enc Try.prog Try.f3 false true false false) := by
  obtain ⟨places, hx⟩ := reads os enc
  refine returnsInHanded_of_row (C := Try.checked) (s := OpenSpec.ofChange Rows.normCentersSpec) Try.own started (by kernel_rfl) Try.func3
    (witness_row_at (enc := enc) (C := Try.checked) false (layIn (World.holding Try.prog os ⟨#[], #[], []⟩)) #[.slice none 0 0, .slice none 0 0, .slice none 0 0] rfl (by kernel_rfl) (by kernel_rfl) (by kernel_rfl)
      (OpenSpec.preRow_of_cond 8 hx (by kernel_rfl) (fun k hk => by cases hk) (by kernel_rfl) (laid_met os))) ?_
  intro W base args ds gs before hval hW _ hc hsz hL _ _
  exact contract H enc W base args ds gs before hval hW hsz hL

theorem said : Rows.NormCentersSaid :=
  OpenClaim.holds_of_cond 3 Try.f3 rfl rfl rfl rfl rfl rfl rfl ⟨rfl, rfl, rfl, rfl, rfl⟩ rfl rfl rfl rfl rfl (by kernel_rfl) Try.func3 (by kernel_rfl)
    (of_decide_eq_true (by kernel_rfl)) (by unfold Func.isWrapper; first | (rw [if_pos (by decide +kernel)]; kernel_rfl) | (rw [if_neg (by decide +kernel)]; exact ⟨rfl, rfl⟩))
    (fun os started H enc _ F => by rw [OpenClaim.pre_eq_preRow]; exact lifted os started H enc F)


end Go.Proofs.Ytibbifklnimlcab.Centers9
namespace Go.Proofs.Ytibbifklnimlcab
theorem normCenters_holds : Rows.NormCentersSaid := Centers9.said
end Go.Proofs.Ytibbifklnimlcab
