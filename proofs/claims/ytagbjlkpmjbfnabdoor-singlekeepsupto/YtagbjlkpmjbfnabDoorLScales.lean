/-
  For all q and scale the statement SingleScales answers true: awake does, and Scaled answers as the document says; its card, tied to the program's text.
-/
import Derived.Test.YtagbjlkpmjbfnabDoorLaV
import Derived.Test.YtagbjlkpmjbfnabDoorNeR
namespace Go.Proofs.YtagbjlkpmjbfnabDoor.LScales
open Go.ChangeShapes Go.WideShapes Go.ChangeAt Go.RowKit

set_option maxHeartbeats 400000 in
theorem isScale_any (s : Int) (w : World) :
    Calls Tryd.prog 35 #[.int .i64 s] w fun e w' => e = .returned (.bool (decide (-64 ≤ s ∧ s ≤ 64))) ∧ w = w' := by
  by_cases h1 : -64 ≤ s
  · by_cases h2 : s ≤ 64
    · rw [decide_eq_true ⟨h1, h2⟩]
      go_enter Tryd.func35, Tryd.ntmps35
      go_wp2
      go_ret
      exact ⟨rfl, rfl⟩
    · rw [decide_eq_false (by omega)]
      go_enter Tryd.func35, Tryd.ntmps35
      go_wp2
      go_ret
      exact ⟨rfl, rfl⟩
  · rw [decide_eq_false (by omega)]
    go_enter Tryd.func35, Tryd.ntmps35
    go_wp2
    go_ret
    exact ⟨rfl, rfl⟩

def scB (q s : Int) : Nat := if -64 ≤ s ∧ s ≤ 64 then nearB q (-s) else 0
def scE (s : Int) : Int := if -64 ≤ s ∧ s ≤ 64 then 0 else 31

set_option maxHeartbeats 400000 in
theorem Scaled_any (q s : Int) (w : World) (hS : Sing w) (hq : -128 ≤ q ∧ q ≤ 127) :
    Calls Tryd.prog 16 #[.int .i8 q, .int .i64 s] w fun e w' => e = .returned (.tuple #[.int .u32 (scB q s : Nat), .int .i64 (scE s)]) ∧ Fresh w w' := by
  have HI := show Hid _ from fun X => isScale_any s X
  obtain ⟨q1, q2⟩ := hq
  unfold scB scE
  by_cases h : -64 ≤ s ∧ s ≤ 64
  · rw [decide_eq_true h] at HI
    rw [if_pos h, if_pos h]
    obtain ⟨h1, h2⟩ := h
    have HN := show Hid _ from fun X (hX : Sing X) => Near_any q (-s) X hX (by omega) (by omega)
    generalize nearB q (-s) = V at *
    go_enter Tryd.func16, Tryd.ntmps16
    go_wp2_with fail
    refine (HI.out _).mono ?_
    rintro r X ⟨rfl, rfl⟩
    go_wp2_with fail
    refine (HN.out _ hS).mono ?_
    rintro r w1 ⟨rfl, g1⟩
    go_wp2
    go_ret2
    exact ⟨rfl, g1⟩
  · rw [decide_eq_false h] at HI
    rw [if_neg h, if_neg h]
    clear h
    go_enter Tryd.func16, Tryd.ntmps16
    go_wp2_with fail
    refine (HI.out _).mono ?_
    rintro r X ⟨rfl, rfl⟩
    go_wp2
    go_ret2
    exact ⟨rfl, Kept.refl _ _⟩

set_option maxHeartbeats 400000 in
theorem refScaled_any (q s : Int) (w : World) (hq : -128 ≤ q ∧ q ≤ 127) :
    Calls Tryd.prog 17 #[.int .i8 q, .int .i64 s] w fun e w' => e = .returned (.tuple #[.int .u32 (scB q s : Nat), .int .i64 (scE s)]) ∧ w = w' := by
  obtain ⟨q1, q2⟩ := hq
  unfold scB scE
  by_cases h1 : s < -64
  · rw [if_neg (by omega), if_neg (by omega)]
    go_enter Tryd.func17, Tryd.ntmps17
    go_wp2
    go_ret2
    exact ⟨rfl, rfl⟩
  · by_cases h2 : 64 < s
    · rw [if_neg (by omega), if_neg (by omega)]
      go_enter Tryd.func17, Tryd.ntmps17
      go_wp2
      go_ret2
      exact ⟨rfl, rfl⟩
    · rw [if_pos (by omega), if_pos (by omega)]
      have HN := show Hid _ from fun X => (refNear_any q (-s) X (by omega) (by omega)).mono fun _ _ h => And.intro h.1 h.2.symm
      generalize nearB q (-s) = V at *
      go_enter Tryd.func17, Tryd.ntmps17
      go_wp2_with fail
      refine (HN.out _).mono ?_
      rintro r X ⟨rfl, rfl⟩
      go_wp2
      go_ret2
      exact ⟨rfl, rfl⟩

set_option maxHeartbeats 800000 in
theorem walk (q s : Int) (w : World) (hS : Sing w) (hq : -128 ≤ q ∧ q ≤ 127) :
    Calls Tryd.prog 5 #[.int .i8 q, .int .i64 s] w fun r w' => r = .returned (.bool true) ∧ Fresh w w' := by
  have H1 := show Hid _ from fun X (hX : Sing X) => Scaled_any q s X hX hq
  have H2 := show Hid _ from fun X => refScaled_any q s X hq
  generalize scB q s = V at *
  generalize scE s = K at *
  go_enter Tryd.func5, Tryd.ntmps5
  go_wp2_with fail
  refine (H1.out _ hS).mono ?_
  rintro r w1 ⟨rfl, h1⟩
  go_wp2_with fail
  refine (H2.out _).mono ?_
  rintro r X ⟨rfl, rfl⟩
  go_wp2_with fail
  refine (awake_any _ (hS.fresh h1)).mono ?_
  rintro r w3 ⟨rfl, h3⟩
  go_wp2
  go_ret
  exact ⟨by simp, h1.trans h3 (fun _ _ e => e)⟩

theorem i8_of {x : Int} (h : (Lit.int .i8 x).wf = true) : -128 ≤ x ∧ x ≤ 127 := by
  simp [Lit.wf, IntKind.min, IntKind.max, IntKind.signed, IntKind.bits] at h
  omega

theorem contract (H : Type) (enc : TypeId × Value → H) (W : World) (base : Nat) (args : Array Value) (ds gs : List (DataW H)) (before : List MemPlace)
    (hval : ∀ (j : Nat) t v, Tryd.f5.params[j]? = some t → args[j]? = some v → Value.okWide Tryd.prog W .any base t v)
    (hW : DataW.Whole enc Tryd.prog Tryd.f5.params.toList Rows.singleScalesSpec.vars false W args.toList ds gs before) 
    (hsz : (DataW.weightsEach Tryd.prog (Tryd.f5.params.toList ++ []) (ds ++ gs)).all (· ≤ reachBytes) = true) (hL : laidMetH Tryd.prog Rows.singleScalesRow.laid W) :
    Calls Tryd.prog 5 args W fun e W' => ∃ v, e = .returned v ∧ Rows.singleScalesSpec.post enc Tryd.prog Tryd.f5 false true false false W args v W' := by
  have hW' := hW
  obtain ⟨p, q, hA0, hV, rfl, hfz, hnd⟩ := hW
  have hA : DataW.TrodAll enc Tryd.prog W 0 (fun _ => true) true Tryd.f5.params.toList args.toList ds p := hA0
  rw [Tryd.params5] at hA hval hsz
  obtain ⟨rfl, rfl⟩ := trodVars_none hV
  obtain ⟨v0, v1, d0, d1, p0, p1, rfl, rfl, rfl, h0, h1⟩ := trodAll_two hA
  obtain ⟨x0, rfl, rfl, rfl, w0⟩ := open_int Tryd.underlying37 (hval 0 37 v0 rfl rfl) h0
  obtain ⟨x1, rfl, rfl, rfl, w1⟩ := open_int Tryd.underlying3 (hval 1 3 v1 rfl rfl) h1
  refine (walk x0 x1 W (sing_of_laid hL (by simp [Rows.singleScalesRow])) (i8_of w0)).mono fun e W' ⟨he, hk⟩ => ?_
  subst he
  exact ⟨_, rfl, post_law rfl (by kernel_rfl) (by kernel_rfl) hW' rfl hk⟩

theorem laid_met (os : Os) : laidMet Tryd.prog Rows.singleScalesRow.laid ((layIn (World.holding Tryd.prog os ⟨#[], #[], []⟩)).forCall (fun _ _ => 0) ⟨#[], #[.int .i8 0, .int .i64 0], []⟩).memory :=
  laidMet_of_run' 8 (by kernel_rfl) (by kernel_rfl)
theorem reads (os : Os) {H : Type} (enc : TypeId × Value → H) : ∃ places, DataW.whole enc Tryd.prog ((layIn (World.holding Tryd.prog os ⟨#[], #[], []⟩)).forCall (fun _ _ => 0) ⟨#[], #[.int .i8 0, .int .i64 0], []⟩).memory Tryd.f5.params.toList Rows.singleScalesSpec.vars false (#[.int .i8 0, .int .i64 0] : Array Value).toList 8 = some ([.lit (.int .i8 0), .lit (.int .i64 0)], [], places) :=
  ⟨[], by kernel_rfl⟩

set_option maxRecDepth 100000 in
theorem lifted (os : Os) (started : os.Started) (H : Type) (enc : TypeId × Value → H) (F : Stop.Interp) :
    ReturnsInHanded {} Tryd.checked os 5 .any ((OpenSpec.ofChange Rows.singleScalesSpec).preRow enc Tryd.prog Tryd.f5 Rows.singleScalesRow.domain false Rows.singleScalesRow.laid) (((OpenSpec.ofChange Rows.singleScalesSpec).at F).post enc Tryd.prog Tryd.f5 false true false false) := by
  obtain ⟨places, hx⟩ := reads os enc
  refine returnsInHanded_of_row (C := Tryd.checked) (s := OpenSpec.ofChange Rows.singleScalesSpec) Tryd.own started (by kernel_rfl) Tryd.func5
    (witness_row_at (enc := enc) (C := Tryd.checked) false (layIn (World.holding Tryd.prog os ⟨#[], #[], []⟩)) #[.int .i8 0, .int .i64 0] rfl (by kernel_rfl) (by kernel_rfl) (by kernel_rfl)
      (OpenSpec.preRow_of_cond 8 hx (by kernel_rfl) (fun k hk => by cases hk) (by kernel_rfl) (laid_met os))) ?_
  intro W base args ds gs before hval hW _ hc hsz hL _ _
  exact contract H enc W base args ds gs before hval hW hsz hL

theorem said : Rows.SingleScalesSaid :=
  OpenClaim.holds_of_cond 5 Tryd.f5 rfl rfl rfl rfl rfl rfl rfl ⟨rfl, rfl, rfl, rfl, rfl⟩ rfl rfl rfl rfl rfl (by kernel_rfl) Tryd.func5 (by kernel_rfl)
    (of_decide_eq_true (by kernel_rfl)) (by unfold Func.isWrapper; first | (rw [if_pos (by decide +kernel)]; kernel_rfl) | (rw [if_neg (by decide +kernel)]; exact ⟨rfl, rfl⟩))
    (fun os started H enc _ F => by rw [OpenClaim.pre_eq_preRow]; exact lifted os started H enc F)

theorem plain (f : FuncId) (fn : Func) (hf : Tryd.pinned.checked.prog.funcNamed Rows.singleScalesRow.func = some f) (hfn : Tryd.pinned.checked.prog.funcs[f]? = some fn) :
    false = Tryd.pinned.checked.prog.looks [] ∧ ∀ (j : Nat) t, fn.params[j]? = some t → Tryd.pinned.checked.prog.wantsStandIn t = false := by
  obtain rfl : f = 5 := Option.some.inj ((show Tryd.prog.funcNamed Rows.singleScalesRow.func = some 5 by kernel_rfl).symm.trans hf) |>.symm
  obtain rfl : fn = Tryd.f5 := (Option.some.inj (Tryd.func5.symm.trans hfn)).symm
  refine ⟨by kernel_rfl, fun j t ht => ?_⟩
  have hall : (Tryd.f5.params.toList.all fun u => !Tryd.prog.wantsStandIn u) = true := by kernel_rfl
  exact (show Tryd.prog.wantsStandIn t = false by simpa using List.all_eq_true.1 hall t (Array.mem_toList_iff.2 (Array.mem_of_getElem? ht)))

theorem card : Rows.SingleScalesCardSaid :=
  Claim7.holds_tied_plain_at .later [] _ _ _ _ said (fun _ h => by cases h) (by kernel_rfl) (fun _ h => by cases h) singleScales_row_tie rfl ⟨rfl, rfl⟩ (by kernel_rfl) rfl plain (by kernel_rfl)

end Go.Proofs.YtagbjlkpmjbfnabDoor.LScales
namespace Go.Proofs.YtagbjlkpmjbfnabDoor
theorem singleScales_card : Rows.SingleScalesCardSaid := LScales.card
end Go.Proofs.YtagbjlkpmjbfnabDoor
