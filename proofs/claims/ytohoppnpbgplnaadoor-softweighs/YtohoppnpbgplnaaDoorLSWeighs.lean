/-
  For every list of scores the statement SoftWeighs answers true: awake does; Weights is the document's; the list stays as it is; its card, tied to the program's text.
-/
import Derived.Test.YtohoppnpbgplnaaDoorSfb
import Derived.Test.YtohoppnpbgplnaaDoorSfw
import Derived.Test.YtohoppnpbgplnaaDoorNof
namespace Go.Proofs.YtohoppnpbgplnaaDoor.SWeighs
open Go.ChangeShapes Go.WideShapes Go.ChangeAt Go.RowKit Go.Lib Go.Maps

set_option maxHeartbeats 4000000 in
set_option maxRecDepth 100000 in
theorem walk (lv : Value) (zs : List Int) (w : World) (hB : Bend w) (hl : Rk .i64 (fun b => b < w.heap.size) w lv zs) :
    Calls Tryd.prog 3 #[lv] w fun e w' => e = .returned (.bool true) ∧ Fresh w w' := by
  obtain ⟨t, W0, hr1, hF0, hR0⟩ := copy_of ty64 hl
  have HL : Hid (∀ W, Fresh W0 W → Bend W ∧ Rk .i64 (fun b => b < w.heap.size) W lv zs ∧ Rk .i64 (fun b => w.heap.size ≤ b ∧ b < W0.heap.size) W t zs) := fun W hF => ⟨(hB.fresh hF0).fresh hF, (hl.fresh hF0).fresh hF, hR0.fresh hF⟩
  have H1 : Hid (Unit → _) := fun (_ : Unit) => Weights_any _ _ _ W0 (HL.out W0 (Kept.refl _ _)).1 (HL.out W0 (Kept.refl _ _)).2.1
  have HF0 : Hid (Fresh w W0) := hF0
  have HRL : Hid ((woL zs).length * kb .i64 ≤ 140737488351232 ∧ ∀ z ∈ woL zs, Fit .i64 z) := ⟨woL_room zs, woL_fit zs⟩
  obtain ⟨ao, ac, rfl, _⟩ := hl.shape
  obtain ⟨bo, bc, rfl, _⟩ := hR0.shape
  clear hl hR0 hF0 hB
  go_enter Tryd.func3, Tryd.ntmps3
  go_wp2_with (at_builtin; refine Lib.wpList_append_run _ rfl _ _ _ _ rfl _ _ rfl rfl _ _ hr1 ?_; clear hr1)
  refine (H1.out ()).mono ?_
  rintro e w2 hG
  obtain ⟨v2, rfl, hR2, hF2⟩ := hG.row HRL.out.1 HRL.out.2
  have HF2 : Hid (Fresh W0 w2) := hF2
  have HR2 : Hid (Rk .i64 (fun b => W0.heap.size ≤ b ∧ b < w2.heap.size) w2 v2 (woL zs)) := hR2
  have H2 : Hid (Unit → _) := fun (_ : Unit) => refWeights_any _ _ _ w2 (HL.out w2 hF2).2.2
  clear H1 hF2 hG hR2
  go_wp2_with fail
  refine (H2.out ()).mono ?_
  rintro e w3 hG
  obtain ⟨v3, rfl, hR3, hF3⟩ := hG.row HRL.out.1 HRL.out.2
  have HF3 : Hid (Fresh W0 w3) := HF2.out.trans hF3 (fun _ _ e => e)
  have HR3 : Hid (∀ W, Fresh w3 W → Rk .i64 (fun b => W0.heap.size ≤ b ∧ b < w2.heap.size) W v2 (woL zs) ∧ Rk .i64 (fun b => w2.heap.size ≤ b ∧ b < w3.heap.size) W v3 (woL zs)) := fun W hF => ⟨(HR2.out.fresh hF3).fresh hF, hR3.fresh hF⟩
  have HAW : Hid (Unit → _) := fun (_ : Unit) => awake_any w3 (HL.out w3 HF3.out).1
  clear H2 HF2 hF3 hG hR3 HR2
  go_wp2_with fail
  refine (HAW.out ()).mono ?_
  rintro e w4 ⟨rfl, hF4⟩
  have HF4 : Hid (Fresh W0 w4) := HF3.out.trans hF4 (fun _ _ e => e)
  have H4 : Hid (Unit → _) := fun (_ : Unit) => longs_any _ _ _ _ _ w4 (HR3.out w4 hF4).1 (HR3.out w4 hF4).2
  clear hF4 HF3 HAW HR3
  generalize wE zs.length = E at *
  go_wp2_with fail
  refine (H4.out ()).mono ?_
  rintro e w5 ⟨rfl, n5, hw5⟩
  have HF5 : Hid (Fresh W0 w5) := by show Fresh _ _; rw [hw5]; exact HF4.out.drewN n5
  have H5 : Hid (Unit → _) := fun (_ : Unit) => longs_any _ _ _ _ zs w5 (HL.out w5 HF5.out).2.1 (HL.out w5 HF5.out).2.2
  clear hw5 H4 HF4 HL
  go_wp2_with fail
  refine (H5.out ()).mono ?_
  rintro e w6 ⟨rfl, n6, hw6⟩
  have HF6 : Hid (Fresh w w6) := by show Fresh _ _; rw [hw6]; exact HF0.out.trans (HF5.out.drewN n6) (fun _ _ e => e)
  clear hw6 H5 HF5 HRL
  go_wp2
  go_ret
  exact ⟨by simp, HF6.out⟩

set_option maxRecDepth 100000 in
theorem contract (H : Type) (enc : TypeId × Value → H) (W : World) (base : Nat) (args : Array Value) (ds gs : List (DataW H)) (before : List MemPlace)
    (hval : ∀ (j : Nat) t v, Tryd.f3.params[j]? = some t → args[j]? = some v → Value.okWide Tryd.prog W .any base t v)
    (hW : DataW.Whole enc Tryd.prog Tryd.f3.params.toList Rows.softWeighsSpec.vars false W args.toList ds gs before) 
    (hsz : (DataW.weightsEach Tryd.prog (Tryd.f3.params.toList ++ []) (ds ++ gs)).all (· ≤ reachBytes) = true) (hL : laidMetH Tryd.prog Rows.softWeighsRow.laid W) :
    Calls Tryd.prog 3 args W fun e W' => ∃ v, e = .returned v ∧ Rows.softWeighsSpec.post enc Tryd.prog Tryd.f3 false true false false W args v W' := by
  have hW' := hW
  obtain ⟨p, q, hA0, hV, rfl, hfz, hnd⟩ := hW
  have hA : DataW.TrodAll enc Tryd.prog W 0 (fun _ => true) true Tryd.f3.params.toList args.toList ds p := hA0
  rw [Tryd.params3] at hA hval hsz
  obtain ⟨rfl, rfl⟩ := trodVars_none hV
  obtain ⟨v0, d0, rfl, rfl, h0⟩ := trodAll_one hA
  obtain ⟨zs, hz⟩ := arg64 (hval 0 22 v0 rfl rfl) h0 hsz (j := 0) rfl rfl
  refine (walk v0 zs W (bend_of_laid hL) hz).mono fun e W' ⟨he, hk⟩ => ?_
  subst he
  exact ⟨_, rfl, post_law rfl (by kernel_rfl) (by kernel_rfl) hW' rfl hk⟩

set_option maxRecDepth 100000 in
theorem laid_met (os : Os) : laidMet Tryd.prog Rows.softWeighsRow.laid ((layIn (World.holding Tryd.prog os ⟨#[], #[], []⟩)).forCall (fun _ _ => 0) ⟨#[], #[.slice none 0 0], []⟩).memory :=
  laidMet_of_run' 8 (by kernel_rfl) (by kernel_rfl)
set_option maxRecDepth 100000 in
theorem reads (os : Os) {H : Type} (enc : TypeId × Value → H) : ∃ places, DataW.whole enc Tryd.prog ((layIn (World.holding Tryd.prog os ⟨#[], #[], []⟩)).forCall (fun _ _ => 0) ⟨#[], #[.slice none 0 0], []⟩).memory Tryd.f3.params.toList Rows.softWeighsSpec.vars false (#[.slice none 0 0] : Array Value).toList 8 = some ([.nil], [], places) :=
  ⟨[], by kernel_rfl⟩

set_option maxRecDepth 100000 in
theorem lifted (os : Os) (started : os.Started) (H : Type) (enc : TypeId × Value → H) (F : Stop.Interp) :
    ReturnsInHanded {} Tryd.checked os 3 .any ((OpenSpec.ofChange Rows.softWeighsSpec).preRow enc Tryd.prog Tryd.f3 Rows.softWeighsRow.domain false Rows.softWeighsRow.laid) (((OpenSpec.ofChange Rows.softWeighsSpec).at F).post enc Tryd.prog Tryd.f3 false true false false) := by
  obtain ⟨places, hx⟩ := reads os enc
  refine returnsInHanded_of_row (C := Tryd.checked) (s := OpenSpec.ofChange Rows.softWeighsSpec) Tryd.own started (by kernel_rfl) Tryd.func3
    (witness_row_at (enc := enc) (C := Tryd.checked) false (layIn (World.holding Tryd.prog os ⟨#[], #[], []⟩)) #[.slice none 0 0] rfl (by kernel_rfl) (by kernel_rfl) (by kernel_rfl)
      (OpenSpec.preRow_of_cond 8 hx (by kernel_rfl) (fun k hk => by cases hk) (by kernel_rfl) (laid_met os))) ?_
  intro W base args ds gs before hval hW _ hc hsz hL _ _
  exact contract H enc W base args ds gs before hval hW hsz hL

theorem said : Rows.SoftWeighsSaid :=
  OpenClaim.holds_of_cond 3 Tryd.f3 rfl rfl rfl rfl rfl rfl rfl ⟨rfl, rfl, rfl, rfl, rfl⟩ rfl rfl rfl rfl rfl (by kernel_rfl) Tryd.func3 (by kernel_rfl)
    (of_decide_eq_true (by kernel_rfl)) (by unfold Func.isWrapper; first | (rw [if_pos (by decide +kernel)]; kernel_rfl) | (rw [if_neg (by decide +kernel)]; exact ⟨rfl, rfl⟩))
    (fun os started H enc _ F => by rw [OpenClaim.pre_eq_preRow]; exact lifted os started H enc F)

theorem plain (f : FuncId) (fn : Func) (hf : Tryd.pinned.checked.prog.funcNamed Rows.softWeighsRow.func = some f) (hfn : Tryd.pinned.checked.prog.funcs[f]? = some fn) :
    false = Tryd.pinned.checked.prog.looks [] ∧ ∀ (j : Nat) t, fn.params[j]? = some t → Tryd.pinned.checked.prog.wantsStandIn t = false := by
  obtain rfl : f = 3 := Option.some.inj ((show Tryd.prog.funcNamed Rows.softWeighsRow.func = some 3 by kernel_rfl).symm.trans hf) |>.symm
  obtain rfl : fn = Tryd.f3 := (Option.some.inj (Tryd.func3.symm.trans hfn)).symm
  refine ⟨by kernel_rfl, fun j t ht => ?_⟩
  have hall : (Tryd.f3.params.toList.all fun u => !Tryd.prog.wantsStandIn u) = true := by kernel_rfl
  exact (show Tryd.prog.wantsStandIn t = false by simpa using List.all_eq_true.1 hall t (Array.mem_toList_iff.2 (Array.mem_of_getElem? ht)))

theorem card : Rows.SoftWeighsCardSaid :=
  Claim7.holds_tied_plain_at .later [] _ _ _ _ said (fun _ h => by cases h) (by kernel_rfl) (fun _ h => by cases h) softWeighs_row_tie rfl ⟨rfl, rfl⟩ (by kernel_rfl) rfl plain (by kernel_rfl)

end Go.Proofs.YtohoppnpbgplnaaDoor.SWeighs
namespace Go.Proofs.YtohoppnpbgplnaaDoor
theorem softWeighs_card : Rows.SoftWeighsCardSaid := SWeighs.card
end Go.Proofs.YtohoppnpbgplnaaDoor
