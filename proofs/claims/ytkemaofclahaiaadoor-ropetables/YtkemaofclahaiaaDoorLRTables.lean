/-
  For all ints angle, places and half the statement RopeTables answers true: awake does; Sine and Table are the document's; its card, tied to the program's text.
-/
import Derived.Test.YtkemaofclahaiaaDoorRoh
namespace Go.Proofs.YtkemaofclahaiaaDoor.RTables
open Go.ChangeShapes Go.WideShapes Go.ChangeAt Go.RowKit Go.Lib Go.Maps

set_option maxHeartbeats 2000000 in
set_option maxRecDepth 100000 in
theorem walk (a places half : Int) (w : World) (hS : Sin w) :
    Calls Tryd.prog 4 #[zV a, zV places, zV half] w fun e w' => e = .returned (.bool true) ∧ Fresh w w' := by
  have HS : Hid (Sin w) := hS
  have HAW : Hid (Unit → _) := fun (_ : Unit) => awake_any w hS
  clear hS
  go_enter Tryd.func4, Tryd.ntmps4
  go_wp2_with fail
  refine (HAW.out ()).mono ?_
  rintro e w1 ⟨rfl, hF1⟩
  have HF1 : Hid (Fresh w w1) := hF1
  clear HAW hF1
  go_wp2_with fail
  refine (Sine_any a w1 (HS.out.fresh HF1.out)).mono ?_
  rintro e w2 ⟨rfl, rfl⟩
  go_wp2_with fail
  refine (refSine_any a w2).mono ?_
  rintro e w3 ⟨rfl, hF3⟩
  have HF3 : Hid (Fresh w w3) := HF1.out.trans hF3 (fun _ _ e => e)
  clear HF1 hF3
  generalize sn a = s at *
  go_wp2_with fail
  refine (Table_any places half w3 (HS.out.fresh HF3.out)).mono ?_
  rintro e w4 hG4
  obtain ⟨u4, v4, rfl, hu4, hv4, hF4⟩ := hG4.tab
  have HF4 : Hid (Fresh w w4) := HF3.out.trans hF4 (fun _ _ e => e)
  have HR4 : Hid _ := And.intro hu4 hv4
  clear hG4 hF4 HF3 hu4 hv4
  go_wp2_with fail
  refine (refTable_any places half w4).mono ?_
  rintro e w5 hG5
  obtain ⟨u5, v5, rfl, hu5, hv5, hF5⟩ := hG5.tab
  have HF5 : Hid (Fresh w w5) := HF4.out.trans hF5 (fun _ _ e => e)
  have HA : Hid (Unit → _) := fun (_ : Unit) => same_any _ _ _ _ _ w5 (HR4.out.1.fresh hF5) hu5
  have HB : Hid (∀ W, Fresh w5 W → _) := fun W hW => same_any _ _ _ _ _ W ((HR4.out.2.fresh hF5).fresh hW) (hv5.fresh hW)
  clear hG5 hF5 HF4 hu5 hv5 HR4
  generalize stE places half 1 1 = E at *
  go_wp2_with fail
  refine (HA.out ()).mono ?_
  rintro e w6 ⟨rfl, n6, hw6⟩
  have HF6 : Hid (Fresh w5 w6) := by show Fresh _ _; rw [hw6]; exact (Kept.refl _ _).drewN n6
  clear hw6 HA
  go_wp2_with fail
  refine (HB.out _ HF6.out).mono ?_
  rintro e w7 ⟨rfl, n7, hw7⟩
  have HF7 : Hid (Fresh w w7) := by show Fresh _ _; rw [hw7]; exact HF5.out.trans (HF6.out.drewN n7) (fun _ _ e => e)
  clear hw7 HB HF6 HF5
  go_wp2
  go_ret
  exact ⟨by simp, HF7.out⟩

set_option maxRecDepth 100000 in
theorem contract (H : Type) (enc : TypeId × Value → H) (W : World) (base : Nat) (args : Array Value) (ds gs : List (DataW H)) (before : List MemPlace)
    (hval : ∀ (j : Nat) t v, Tryd.f4.params[j]? = some t → args[j]? = some v → Value.okWide Tryd.prog W .any base t v)
    (hW : DataW.Whole enc Tryd.prog Tryd.f4.params.toList Rows.ropeTablesSpec.vars false W args.toList ds gs before) 
    (hsz : (DataW.weightsEach Tryd.prog (Tryd.f4.params.toList ++ []) (ds ++ gs)).all (· ≤ reachBytes) = true) (hL : laidMetH Tryd.prog Rows.ropeTablesRow.laid W) :
    Calls Tryd.prog 4 args W fun e W' => ∃ v, e = .returned v ∧ Rows.ropeTablesSpec.post enc Tryd.prog Tryd.f4 false true false false W args v W' := by
  have hW' := hW
  obtain ⟨p, q, hA0, hV, rfl, hfz, hnd⟩ := hW
  have hA : DataW.TrodAll enc Tryd.prog W 0 (fun _ => true) true Tryd.f4.params.toList args.toList ds p := hA0
  rw [Tryd.params4] at hA hval hsz
  obtain ⟨rfl, rfl⟩ := trodVars_none hV
  obtain ⟨v0, v1, v2, d0, d1, d2, p0, p1, p2, rfl, rfl, rfl, h0, h1, h2⟩ := trodAll_three hA
  obtain ⟨x0, rfl, rfl, rfl, w0⟩ := open_int Tryd.underlying3 (hval 0 3 v0 rfl rfl) h0
  obtain ⟨x1, rfl, rfl, rfl, w1⟩ := open_int Tryd.underlying3 (hval 1 3 v1 rfl rfl) h1
  obtain ⟨x2, rfl, rfl, rfl, w2⟩ := open_int Tryd.underlying3 (hval 2 3 v2 rfl rfl) h2
  refine (walk x0 x1 x2 W (sin_of_laid hL)).mono fun e W' ⟨he, hk⟩ => ?_
  subst he
  exact ⟨_, rfl, post_law rfl (by kernel_rfl) (by kernel_rfl) hW' rfl hk⟩

set_option maxRecDepth 100000 in
theorem laid_met (os : Os) : laidMet Tryd.prog Rows.ropeTablesRow.laid ((layIn (World.holding Tryd.prog os ⟨#[], #[], []⟩)).forCall (fun _ _ => 0) ⟨#[], #[.int .i64 0, .int .i64 0, .int .i64 0], []⟩).memory :=
  laidMet_of_run' 8 (by kernel_rfl) (by kernel_rfl)
set_option maxRecDepth 100000 in
theorem reads (os : Os) {H : Type} (enc : TypeId × Value → H) : ∃ places, DataW.whole enc Tryd.prog ((layIn (World.holding Tryd.prog os ⟨#[], #[], []⟩)).forCall (fun _ _ => 0) ⟨#[], #[.int .i64 0, .int .i64 0, .int .i64 0], []⟩).memory Tryd.f4.params.toList Rows.ropeTablesSpec.vars false (#[.int .i64 0, .int .i64 0, .int .i64 0] : Array Value).toList 8 = some ([.lit (.int .i64 0), .lit (.int .i64 0), .lit (.int .i64 0)], [], places) :=
  ⟨[], by kernel_rfl⟩

set_option maxRecDepth 100000 in
theorem lifted (os : Os) (started : os.Started) (H : Type) (enc : TypeId × Value → H) (F : Stop.Interp) :
    ReturnsInHanded {} Tryd.checked os 4 .any ((OpenSpec.ofChange Rows.ropeTablesSpec).preRow enc Tryd.prog Tryd.f4 Rows.ropeTablesRow.domain false Rows.ropeTablesRow.laid) (((OpenSpec.ofChange Rows.ropeTablesSpec).at F).post enc Tryd.prog Tryd.f4 false true false false) := by
  obtain ⟨places, hx⟩ := reads os enc
  refine returnsInHanded_of_row (C := Tryd.checked) (s := OpenSpec.ofChange Rows.ropeTablesSpec) Tryd.own started (by kernel_rfl) Tryd.func4
    (witness_row_at (enc := enc) (C := Tryd.checked) false (layIn (World.holding Tryd.prog os ⟨#[], #[], []⟩)) #[.int .i64 0, .int .i64 0, .int .i64 0] rfl (by kernel_rfl) (by kernel_rfl) (by kernel_rfl)
      (OpenSpec.preRow_of_cond 8 hx (by kernel_rfl) (fun k hk => by cases hk) (by kernel_rfl) (laid_met os))) ?_
  intro W base args ds gs before hval hW _ hc hsz hL _ _
  exact contract H enc W base args ds gs before hval hW hsz hL

theorem said : Rows.RopeTablesSaid :=
  OpenClaim.holds_of_cond 4 Tryd.f4 rfl rfl rfl rfl rfl rfl rfl ⟨rfl, rfl, rfl, rfl, rfl⟩ rfl rfl rfl rfl rfl (by kernel_rfl) Tryd.func4 (by kernel_rfl)
    (of_decide_eq_true (by kernel_rfl)) (by unfold Func.isWrapper; first | (rw [if_pos (by decide +kernel)]; kernel_rfl) | (rw [if_neg (by decide +kernel)]; exact ⟨rfl, rfl⟩))
    (fun os started H enc _ F => by rw [OpenClaim.pre_eq_preRow]; exact lifted os started H enc F)

theorem plain (f : FuncId) (fn : Func) (hf : Tryd.pinned.checked.prog.funcNamed Rows.ropeTablesRow.func = some f) (hfn : Tryd.pinned.checked.prog.funcs[f]? = some fn) :
    false = Tryd.pinned.checked.prog.looks [] ∧ ∀ (j : Nat) t, fn.params[j]? = some t → Tryd.pinned.checked.prog.wantsStandIn t = false := by
  obtain rfl : f = 4 := Option.some.inj ((show Tryd.prog.funcNamed Rows.ropeTablesRow.func = some 4 by kernel_rfl).symm.trans hf) |>.symm
  obtain rfl : fn = Tryd.f4 := (Option.some.inj (Tryd.func4.symm.trans hfn)).symm
  refine ⟨by kernel_rfl, fun j t ht => ?_⟩
  have hall : (Tryd.f4.params.toList.all fun u => !Tryd.prog.wantsStandIn u) = true := by kernel_rfl
  exact (show Tryd.prog.wantsStandIn t = false by simpa using List.all_eq_true.1 hall t (Array.mem_toList_iff.2 (Array.mem_of_getElem? ht)))

theorem card : Rows.RopeTablesCardSaid :=
  Claim7.holds_tied_plain_at .later [] _ _ _ _ said (fun _ h => by cases h) (by kernel_rfl) (fun _ h => by cases h) ropeTables_row_tie rfl ⟨rfl, rfl⟩ (by kernel_rfl) rfl plain (by kernel_rfl)

end Go.Proofs.YtkemaofclahaiaaDoor.RTables
namespace Go.Proofs.YtkemaofclahaiaaDoor
theorem ropeTables_card : Rows.RopeTablesCardSaid := RTables.card
end Go.Proofs.YtkemaofclahaiaaDoor
