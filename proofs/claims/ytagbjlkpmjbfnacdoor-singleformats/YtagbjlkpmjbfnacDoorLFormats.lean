/-
  For all bits a and h the statement SingleFormats answers true: awake does, and Half, FromHalf, Brain and FromBrain answer as the document says; its card, tied to the program's text.
-/
import Derived.Test.YtagbjlkpmjbfnacDoorLHalves
import Derived.Test.YtagbjlkpmjbfnacDoorFrB
namespace Go.Proofs.YtagbjlkpmjbfnacDoor.LFormats
open Go.ChangeShapes Go.WideShapes Go.ChangeAt Go.RowKit Ieee

set_option maxHeartbeats 2000000 in
set_option maxRecDepth 100000 in
theorem walk (a h : Nat) (w : World) (hv : Vars w) (ha : a < 4294967296) (hh : h < 65536) :
    Calls Tryd.prog 3 #[.int .u32 a, .int .u16 h] w fun r w' => r = .returned (.bool true) ∧ Fresh w w' := by
  have H1 := show Hid _ from fun X (hX : Vars X) => Half_any a X hX.s hX.t hX.h ha
  have H2 := show Hid _ from fun X => refHalf_any a X ha
  have H3 := show Hid _ from fun X (hX : Vars X) => FromHalf_any h X hX.s hX.t hX.h hh
  have H4 := show Hid _ from fun X => refFromHalf_any h X hh
  have H5 := show Hid _ from fun X (hX : Vars X) => Brain_any a X hX.s hX.t hX.b ha
  have H6 := show Hid _ from fun X => refBrain_any a X ha
  have H7 := show Hid _ from fun X (hX : Vars X) => FromBrain_any h X hX.s hX.t hX.b hh
  have H8 := show Hid _ from fun X => refFromBrain_any h X hh
  generalize conv half (single.read a) = V1 at *
  generalize conv single (half.read h) = V2 at *
  generalize conv brain (single.read a) = V3 at *
  generalize conv single (brain.read h) = V4 at *
  go_enter Tryd.func3, Tryd.ntmps3
  go_wp2_with fail
  refine (awake_any _ hv.s).mono ?_
  rintro r w1 ⟨rfl, h1⟩
  have hv1 := hv.fresh h1
  go_wp2_with fail
  refine (H1.out _ hv1).mono ?_
  rintro r w2 ⟨rfl, h2⟩
  have hv2 := hv1.fresh h2
  go_wp2_with fail
  refine (H2.out _).mono ?_
  rintro r X ⟨rfl, rfl⟩
  go_wp2_with fail
  refine (H3.out _ hv2).mono ?_
  rintro r w3 ⟨rfl, h3⟩
  have hv3 := hv2.fresh h3
  go_wp2_with fail
  refine (H4.out _).mono ?_
  rintro r X ⟨rfl, rfl⟩
  go_wp2_with fail
  refine (H5.out _ hv3).mono ?_
  rintro r w4 ⟨rfl, h4⟩
  have hv4 := hv3.fresh h4
  go_wp2_with fail
  refine (H6.out _).mono ?_
  rintro r X ⟨rfl, rfl⟩
  go_wp2_with fail
  refine (H7.out _ hv4).mono ?_
  rintro r w5 ⟨rfl, h5⟩
  go_wp2_with fail
  refine (H8.out _).mono ?_
  rintro r X ⟨rfl, rfl⟩
  go_wp2
  go_ret
  exact ⟨rfl, (((h1.trans h2 (fun _ _ e => e)).trans h3 (fun _ _ e => e)).trans h4 (fun _ _ e => e)).trans h5 (fun _ _ e => e)⟩

theorem contract (H : Type) (enc : TypeId × Value → H) (W : World) (base : Nat) (args : Array Value) (ds gs : List (DataW H)) (before : List MemPlace)
    (hval : ∀ (j : Nat) t v, Tryd.f3.params[j]? = some t → args[j]? = some v → Value.okWide Tryd.prog W .any base t v)
    (hW : DataW.Whole enc Tryd.prog Tryd.f3.params.toList Rows.singleFormatsSpec.vars false W args.toList ds gs before) 
    (hsz : (DataW.weightsEach Tryd.prog (Tryd.f3.params.toList ++ []) (ds ++ gs)).all (· ≤ reachBytes) = true) (hL : laidMetH Tryd.prog Rows.singleFormatsRow.laid W) :
    Calls Tryd.prog 3 args W fun e W' => ∃ v, e = .returned v ∧ Rows.singleFormatsSpec.post enc Tryd.prog Tryd.f3 false true false false W args v W' := by
  have hW' := hW
  obtain ⟨p, q, hA0, hV, rfl, hfz, hnd⟩ := hW
  have hA : DataW.TrodAll enc Tryd.prog W 0 (fun _ => true) true Tryd.f3.params.toList args.toList ds p := hA0
  rw [Tryd.params3] at hA hval hsz
  obtain ⟨rfl, rfl⟩ := trodVars_none hV
  obtain ⟨v0, v1, d0, d1, p0, p1, rfl, rfl, rfl, h0, h1⟩ := trodAll_two hA
  obtain ⟨x0, rfl, rfl, rfl, w0⟩ := open_int Tryd.underlying22 (hval 0 22 v0 rfl rfl) h0
  obtain ⟨x1, rfl, rfl, rfl, w1⟩ := open_int Tryd.underlying23 (hval 1 23 v1 rfl rfl) h1
  obtain ⟨a, rfl, ha⟩ := u32_of w0
  obtain ⟨b, rfl, hb⟩ := u16_of w1
  refine (walk a b W ⟨sing_of_laid hL (by simp [Rows.singleFormatsRow]), tab_of_laid hL, halv_of_laid hL (by simp [Rows.singleFormatsRow]), brai_of_laid hL (by simp [Rows.singleFormatsRow])⟩ ha hb).mono fun e W' ⟨he, hk⟩ => ?_
  subst he
  exact ⟨_, rfl, post_law rfl (by kernel_rfl) (by kernel_rfl) hW' rfl hk⟩

theorem laid_met (os : Os) : laidMet Tryd.prog Rows.singleFormatsRow.laid ((layIn (World.holding Tryd.prog os ⟨#[], #[], []⟩)).forCall (fun _ _ => 0) ⟨#[], #[.int .u32 0, .int .u16 0], []⟩).memory :=
  laidMet_of_run' 8 (by kernel_rfl) (by kernel_rfl)
theorem reads (os : Os) {H : Type} (enc : TypeId × Value → H) : ∃ places, DataW.whole enc Tryd.prog ((layIn (World.holding Tryd.prog os ⟨#[], #[], []⟩)).forCall (fun _ _ => 0) ⟨#[], #[.int .u32 0, .int .u16 0], []⟩).memory Tryd.f3.params.toList Rows.singleFormatsSpec.vars false (#[.int .u32 0, .int .u16 0] : Array Value).toList 8 = some ([.lit (.int .u32 0), .lit (.int .u16 0)], [], places) :=
  ⟨[], by kernel_rfl⟩

set_option maxRecDepth 100000 in
theorem lifted (os : Os) (started : os.Started) (H : Type) (enc : TypeId × Value → H) (F : Stop.Interp) :
    ReturnsInHanded {} Tryd.checked os 3 .any ((OpenSpec.ofChange Rows.singleFormatsSpec).preRow enc Tryd.prog Tryd.f3 Rows.singleFormatsRow.domain false Rows.singleFormatsRow.laid) (((OpenSpec.ofChange Rows.singleFormatsSpec).at F).post enc Tryd.prog Tryd.f3 false true false false) := by
  obtain ⟨places, hx⟩ := reads os enc
  refine returnsInHanded_of_row (C := Tryd.checked) (s := OpenSpec.ofChange Rows.singleFormatsSpec) Tryd.own started (by kernel_rfl) Tryd.func3
    (witness_row_at (enc := enc) (C := Tryd.checked) false (layIn (World.holding Tryd.prog os ⟨#[], #[], []⟩)) #[.int .u32 0, .int .u16 0] rfl (by kernel_rfl) (by kernel_rfl) (by kernel_rfl)
      (OpenSpec.preRow_of_cond 8 hx (by kernel_rfl) (fun k hk => by cases hk) (by kernel_rfl) (laid_met os))) ?_
  intro W base args ds gs before hval hW _ hc hsz hL _ _
  exact contract H enc W base args ds gs before hval hW hsz hL

theorem said : Rows.SingleFormatsSaid :=
  OpenClaim.holds_of_cond 3 Tryd.f3 rfl rfl rfl rfl rfl rfl rfl ⟨rfl, rfl, rfl, rfl, rfl⟩ rfl rfl rfl rfl rfl (by kernel_rfl) Tryd.func3 (by kernel_rfl)
    (of_decide_eq_true (by kernel_rfl)) (by unfold Func.isWrapper; first | (rw [if_pos (by decide +kernel)]; kernel_rfl) | (rw [if_neg (by decide +kernel)]; exact ⟨rfl, rfl⟩))
    (fun os started H enc _ F => by rw [OpenClaim.pre_eq_preRow]; exact lifted os started H enc F)

theorem plain (f : FuncId) (fn : Func) (hf : Tryd.pinned.checked.prog.funcNamed Rows.singleFormatsRow.func = some f) (hfn : Tryd.pinned.checked.prog.funcs[f]? = some fn) :
    false = Tryd.pinned.checked.prog.looks [] ∧ ∀ (j : Nat) t, fn.params[j]? = some t → Tryd.pinned.checked.prog.wantsStandIn t = false := by
  obtain rfl : f = 3 := Option.some.inj ((show Tryd.prog.funcNamed Rows.singleFormatsRow.func = some 3 by kernel_rfl).symm.trans hf) |>.symm
  obtain rfl : fn = Tryd.f3 := (Option.some.inj (Tryd.func3.symm.trans hfn)).symm
  refine ⟨by kernel_rfl, fun j t ht => ?_⟩
  have hall : (Tryd.f3.params.toList.all fun u => !Tryd.prog.wantsStandIn u) = true := by kernel_rfl
  exact (show Tryd.prog.wantsStandIn t = false by simpa using List.all_eq_true.1 hall t (Array.mem_toList_iff.2 (Array.mem_of_getElem? ht)))

theorem card : Rows.SingleFormatsCardSaid :=
  Claim7.holds_tied_plain_at .later [] _ _ _ _ said (fun _ h => by cases h) (by kernel_rfl) (fun _ h => by cases h) singleFormats_row_tie rfl ⟨rfl, rfl⟩ (by kernel_rfl) rfl plain (by kernel_rfl)

end Go.Proofs.YtagbjlkpmjbfnacDoor.LFormats
namespace Go.Proofs.YtagbjlkpmjbfnacDoor
theorem singleFormats_card : Rows.SingleFormatsCardSaid := LFormats.card
end Go.Proofs.YtagbjlkpmjbfnacDoor
