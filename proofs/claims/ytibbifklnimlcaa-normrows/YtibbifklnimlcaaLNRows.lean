/-
  For every row and every list of gains the statement NormRows answers true: awake does; Row is the document's; both lists stay as they are.
-/
import Derived.Test.YtibbifklnimlcaaNod
import Derived.Test.YtibbifklnimlcaaNoe
import Derived.Test.YtibbifklnimlcaaNof
namespace Go.Proofs.Ytibbifklnimlcaa.Rows9
open Go.ChangeShapes Go.WideShapes Go.ChangeAt Go.RowKit Go.Lib Go.Maps

set_option maxHeartbeats 8000000 in
set_option maxRecDepth 100000 in
theorem walk (lv gv : Value) (zs gs : List Int) (w : World) (hl : Rk .i64 (fun b => b < w.heap.size) w lv zs) (hg : Rk .i8 (fun b => b < w.heap.size) w gv gs) :
    Calls Try.prog 4 #[lv, gv] w fun e w' => e = .returned (.bool true) ∧ Fresh w w' := by
  have HAW : Hid (∀ W : World, _) := fun (W : World) => awake_any W
  obtain ⟨t, W0, hr1, hF0, hR0⟩ := copy_of ty64 hl
  obtain ⟨u, W1, hr2, hF01, hR1⟩ := copy_of ty8 (hg.fresh hF0)
  have hF1 : Fresh w W1 := hF0.trans hF01 (fun _ _ e => e)
  have HL : Hid (∀ W, Fresh W1 W → (Rk .i64 (fun b => b < w.heap.size) W lv zs ∧ Rk .i64 (fun b => w.heap.size ≤ b ∧ b < W0.heap.size) W t zs) ∧ (Rk .i8 (fun b => b < w.heap.size) W gv gs ∧ Rk .i8 (fun b => W0.heap.size ≤ b ∧ b < W1.heap.size) W u gs)) := fun W hF => ⟨⟨hl.fresh (hF1.trans hF (fun _ _ e => e)), (hR0.fresh hF01).fresh hF⟩, hg.fresh (hF1.trans hF (fun _ _ e => e)), hR1.fresh hF⟩
  have H1 : Hid (Unit → _) := fun (_ : Unit) => Row_any _ _ _ _ _ _ W1 (HL.out W1 (Kept.refl _ _)).1.1 (HL.out W1 (Kept.refl _ _)).2.1
  have HF1 : Hid (Fresh w W1) := hF1
  have HRL : Hid ((roL zs gs).length * kb .i8 ≤ 140737488351232 ∧ ∀ z ∈ roL zs gs, Fit .i8 z) := ⟨by have := roL_len zs gs; simp [kb]; omega, roL_fit zs gs⟩
  obtain ⟨ao, ac, rfl, _⟩ := hl.shape
  obtain ⟨bo, bc, rfl, _⟩ := hR0.shape
  obtain ⟨co, cc, rfl, _⟩ := hg.shape
  obtain ⟨eo, ec, rfl, _⟩ := hR1.shape
  clear hl hR1 hF1 hg hR0 hF0 hF01
  go_enter Try.func4, Try.ntmps4
  go_wp2_with (at_builtin; first | (refine Lib.wpList_append_run _ rfl _ _ _ _ rfl _ _ rfl rfl _ _ hr1 ?_; clear hr1) | (refine Lib.wpList_append_run _ rfl _ _ _ _ rfl _ _ rfl rfl _ _ hr2 ?_; clear hr2))
  refine (H1.out ()).mono ?_
  rintro e w2 hG
  obtain ⟨v2, rfl, hR2, hF2⟩ := hG.row HRL.out.1 HRL.out.2
  have HF2 : Hid (Fresh W1 w2) := hF2
  have HR2 : Hid (Rk .i8 (fun b => W1.heap.size ≤ b ∧ b < w2.heap.size) w2 v2 (roL zs gs)) := hR2
  have H2 : Hid (Unit → _) := fun (_ : Unit) => refRow_any _ _ _ _ _ _ w2 (HL.out w2 hF2).1.2 (HL.out w2 hF2).2.2
  clear H1 hF2 hG hR2
  go_wp2_with fail
  refine (H2.out ()).mono ?_
  rintro e w3 hG
  obtain ⟨v3, rfl, hR3, hF3⟩ := hG.row HRL.out.1 HRL.out.2
  have HF3 : Hid (Fresh W1 w3) := HF2.out.trans hF3 (fun _ _ e => e)
  have HR3 : Hid (∀ W, Fresh w3 W → Rk .i8 (fun b => W1.heap.size ≤ b ∧ b < w2.heap.size) W v2 (roL zs gs) ∧ Rk .i8 (fun b => w2.heap.size ≤ b ∧ b < w3.heap.size) W v3 (roL zs gs)) := fun W hF => ⟨(HR2.out.fresh hF3).fresh hF, hR3.fresh hF⟩
  clear H2 HF2 hF3 hG hR3 HR2
  go_wp2_with fail
  refine (HAW.out _).mono ?_
  rintro e w4 ⟨rfl, hF4⟩
  have HF4 : Hid (Fresh W1 w4) := HF3.out.trans hF4 (fun _ _ e => e)
  have H4 : Hid (Unit → _) := fun (_ : Unit) => rows_any _ _ _ _ _ w4 (HR3.out w4 hF4).1 (HR3.out w4 hF4).2
  clear hF4 HF3 HAW HR3
  generalize roE zs gs = E at *
  go_wp2_with fail
  refine (H4.out ()).mono ?_
  rintro e w5 ⟨rfl, n5, hw5⟩
  have HF5 : Hid (Fresh W1 w5) := by show Fresh _ _; rw [hw5]; exact HF4.out.drewN n5
  have H5 : Hid (Unit → _) := fun (_ : Unit) => longs_any _ _ _ _ zs w5 (HL.out w5 HF5.out).1.1 (HL.out w5 HF5.out).1.2
  clear hw5 H4 HF4
  go_wp2_with fail
  refine (H5.out ()).mono ?_
  rintro e w6 ⟨rfl, n6, hw6⟩
  have HF6 : Hid (Fresh W1 w6) := by show Fresh _ _; rw [hw6]; exact HF5.out.drewN n6
  have H6 : Hid (Unit → _) := fun (_ : Unit) => rows_any _ _ _ _ gs w6 (HL.out w6 HF6.out).2.1 (HL.out w6 HF6.out).2.2
  clear hw6 H5 HF5 HL
  go_wp2_with fail
  refine (H6.out ()).mono ?_
  rintro e w7 ⟨rfl, n7, hw7⟩
  have HF7 : Hid (Fresh w w7) := by show Fresh _ _; rw [hw7]; exact HF1.out.trans (HF6.out.drewN n7) (fun _ _ e => e)
  clear hw7 H6 HF6 HRL
  go_wp2
  go_ret
  exact ⟨by simp, HF7.out⟩

set_option maxRecDepth 100000 in
theorem contract (H : Type) (enc : TypeId × Value → H) (W : World) (base : Nat) (args : Array Value) (ds gs : List (DataW H)) (before : List MemPlace)
    (hval : ∀ (j : Nat) t v, Try.f4.params[j]? = some t → args[j]? = some v → Value.okWide Try.prog W .any base t v)
    (hW : DataW.Whole enc Try.prog Try.f4.params.toList Rows.normRowsSpec.vars false W args.toList ds gs before) 
    (hsz : (DataW.weightsEach Try.prog (Try.f4.params.toList ++ []) (ds ++ gs)).all (· ≤ reachBytes) = true) (hL : laidMetH Try.prog Rows.normRowsRow.laid W) :
    Calls Try.prog 4 args W fun e W' => ∃ v, e = .returned v ∧ Rows.normRowsSpec.post enc Try.prog Try.f4 false true false false W args v W' := by
  have hW' := hW
  obtain ⟨p, q, hA0, hV, rfl, hfz, hnd⟩ := hW
  have hA : DataW.TrodAll enc Try.prog W 0 (fun _ => true) true Try.f4.params.toList args.toList ds p := hA0
  rw [Try.params4] at hA hval hsz
  obtain ⟨rfl, rfl⟩ := trodVars_none hV
  have _hL := hL
  obtain ⟨v0, v1, d0, d1, p0, p1, rfl, rfl, rfl, h0, h1⟩ := trodAll_two hA
  obtain ⟨zs, hz⟩ := arg64 (hval 0 22 v0 rfl rfl) h0 hsz (j := 0) rfl rfl
  obtain ⟨gs, hg⟩ := arg8 (hval 1 31 v1 rfl rfl) h1 hsz (j := 1) rfl rfl
  refine (walk v0 v1 zs gs W hz hg).mono fun e W' ⟨he, hk⟩ => ?_
  subst he
  exact ⟨_, rfl, post_law rfl (by kernel_rfl) (by kernel_rfl) hW' rfl hk⟩

set_option maxRecDepth 100000 in
theorem laid_met (os : Os) : laidMet Try.prog Rows.normRowsRow.laid ((layIn (World.holding Try.prog os ⟨#[], #[], []⟩)).forCall (fun _ _ => 0) ⟨#[], #[.slice none 0 0, .slice none 0 0], []⟩).memory :=
  laidMet_of_run' 8 (by kernel_rfl) (by kernel_rfl)
set_option maxRecDepth 100000 in
theorem reads (os : Os) {H : Type} (enc : TypeId × Value → H) : ∃ places, DataW.whole enc Try.prog ((layIn (World.holding Try.prog os ⟨#[], #[], []⟩)).forCall (fun _ _ => 0) ⟨#[], #[.slice none 0 0, .slice none 0 0], []⟩).memory Try.f4.params.toList Rows.normRowsSpec.vars false (#[.slice none 0 0, .slice none 0 0] : Array Value).toList 8 = some ([.nil, .nil], [], places) :=
  ⟨[], by kernel_rfl⟩

set_option maxRecDepth 100000 in
theorem lifted (os : Os) (started : os.Started) (H : Type) (enc : TypeId × Value → H) (F : Stop.Interp) :
    ReturnsInHanded {} Try.checked os 4 .any ((OpenSpec.ofChange Rows.normRowsSpec).preRow enc Try.prog Try.f4 Rows.normRowsRow.domain false Rows.normRowsRow.laid) (((OpenSpec.ofChange Rows.normRowsSpec).at F).post enc Try.prog Try.f4 false true false false) := by
  obtain ⟨places, hx⟩ := reads os enc
  refine returnsInHanded_of_row (C := Try.checked) (s := OpenSpec.ofChange Rows.normRowsSpec) Try.own started (by kernel_rfl) Try.func4
    (witness_row_at (enc := enc) (C := Try.checked) false (layIn (World.holding Try.prog os ⟨#[], #[], []⟩)) #[.slice none 0 0, .slice none 0 0] rfl (by kernel_rfl) (by kernel_rfl) (by kernel_rfl)
      (OpenSpec.preRow_of_cond 8 hx (by kernel_rfl) (fun k hk => by cases hk) (by kernel_rfl) (laid_met os))) ?_
  intro W base args ds gs before hval hW _ hc hsz hL _ _
  exact contract H enc W base args ds gs before hval hW hsz hL

theorem said : Rows.NormRowsSaid :=
  OpenClaim.holds_of_cond 4 Try.f4 rfl rfl rfl rfl rfl rfl rfl ⟨rfl, rfl, rfl, rfl, rfl⟩ rfl rfl rfl rfl rfl (by kernel_rfl) Try.func4 (by kernel_rfl)
    (of_decide_eq_true (by kernel_rfl)) (by unfold Func.isWrapper; first | (rw [if_pos (by decide +kernel)]; kernel_rfl) | (rw [if_neg (by decide +kernel)]; exact ⟨rfl, rfl⟩))
    (fun os started H enc _ F => by rw [OpenClaim.pre_eq_preRow]; exact lifted os started H enc F)


end Go.Proofs.Ytibbifklnimlcaa.Rows9
namespace Go.Proofs.Ytibbifklnimlcaa
theorem normRows_holds : Rows.NormRowsSaid := Rows9.said
end Go.Proofs.Ytibbifklnimlcaa
