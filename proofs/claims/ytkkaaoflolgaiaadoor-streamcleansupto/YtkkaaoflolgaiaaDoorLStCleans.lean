/-
  For every text the statement StreamCleans answers true: Clean answers as the document has it, and ToValidUTF8 leaves just the clean ones as they are.
-/
import Derived.Test.YtkkaaoflolgaiaaDoorSud
import Derived.Test.YtkkaaoflolgaiaaDoorStj
import Derived.Test.YtkkaaoflolgaiaaDoorSty
namespace Go.Proofs.YtkkaaoflolgaiaaDoor.SCleans
open Go.ChangeShapes Go.WideShapes Go.ChangeAt Go.RowKit Go.Lib Go.Maps

set_option maxHeartbeats 4000000 in
set_option maxRecDepth 100000 in
theorem walk (w : World) (l : List UInt8) (hl : l.length ≤ 1048576) (hm : TbM w) :
    Calls Tryd.prog 3 #[sV l] w fun e w' => e = .returned (.bool true) ∧ Fresh w w' := by
  have hcl := clL_le l
  have HA := show Hid _ from awake_any w hm
  have HC : Hid (∀ W, Calls Tryd.prog 10 #[sV l] W fun e w' => e = .returned (sV (clL l)) ∧ Fresh W w') := fun W => Clean_any l W (by omega)
  have HC2 : Hid (∀ W, Calls Tryd.prog 10 #[sV (clL l)] W fun e w' => e = .returned (sV (clL l)) ∧ Fresh W w') := fun W => by
    have := Clean_any (clL l) W (by omega)
    rw [clL_idem] at this
    exact this
  have HR : Hid (∀ W, Calls Tryd.prog 11 #[sV l] W fun e w' => e = .returned (sV (clL l)) ∧ Fresh W w') := fun W => refClean_any l W (by omega)
  have HV : Hid (∀ W, Fresh w W → Calls Tryd.prog 12 #[sV (clL l), .string ⟨#[63]⟩] W fun e w' => e = .returned (sV (clL l)) ∧ Fresh W w') := fun W hk => by
    refine (toValid_any (clL l) W (by omega) (hm.fresh hk)).mono ?_
    rintro e w' ⟨⟨r, rfl, hr⟩, hf⟩
    rw [hr.2 (clL_idem l)]
    exact ⟨rfl, hf⟩
  have HV2 : Hid (∀ W, Fresh w W → Calls Tryd.prog 12 #[sV l, .string ⟨#[63]⟩] W fun e w' => (∃ r, e = .returned (sV r) ∧ (r = l ↔ clL l = l)) ∧ Fresh W w') := fun W hk => toValid_any l W (by omega) (hm.fresh hk)
  clear hm
  generalize clL l = C at *
  have hCC : (C == C) = true := beq_self_eq_true _
  go_enter Tryd.func3, Tryd.ntmps3
  go_wp2_with fail
  refine Calls.mono HA.out ?_
  rintro e' W1 ⟨rfl, hF1⟩
  have HF1 : Hid (Fresh w W1) := hF1
  have HK := show Hid _ from HC.out W1
  clear HA hF1 HC
  go_wp2_with fail
  refine Calls.mono HK.out ?_
  rintro e' W2 ⟨rfl, hF2⟩
  have HF2 : Hid (Fresh w W2) := HF1.out.trans hF2 (fun _ _ e => e)
  have HK := show Hid _ from HR.out W2
  clear HF1 hF2 HR
  go_wp2_with fail
  refine Calls.mono HK.out ?_
  rintro e' W3 ⟨rfl, hF3⟩
  have HF3 : Hid (Fresh w W3) := HF2.out.trans hF3 (fun _ _ e => e)
  have HK := show Hid _ from HC2.out W3
  clear HF2 hF3 HC2
  go_wp2_with fail
  refine Calls.mono HK.out ?_
  rintro e' W4 ⟨rfl, hF4⟩
  have HF4 : Hid (Fresh w W4) := HF3.out.trans hF4 (fun _ _ e => e)
  have HK := show Hid _ from HV.out W4 HF4.out
  clear HF3 hF4 HV
  go_wp2_with fail
  refine Calls.mono HK.out ?_
  rintro e' W5 ⟨rfl, hF5⟩
  have HF5 : Hid (Fresh w W5) := HF4.out.trans hF5 (fun _ _ e => e)
  have HK := show Hid _ from HV2.out W5 HF5.out
  clear HF4 hF5 HV2
  go_wp2_with fail
  refine Calls.mono HK.out ?_
  rintro e' W6 ⟨⟨r, rfl, hr⟩, hF6⟩
  have HF6 : Hid (Fresh w W6) := HF5.out.trans hF6 (fun _ _ e => e)
  clear HF5 hF6 HK
  by_cases hc : C = l
  · have h1 : (C == l) = true := beq_iff_eq.2 hc
    have h2 : (r == l) = true := beq_iff_eq.2 (hr.2 hc)
    clear hr hc
    go_wp2
    go_ret
    exact ⟨by simp, HF6.out⟩
  · have h1 : (C == l) = false := beq_eq_false_iff_ne.2 hc
    have h2 : (r == l) = false := beq_eq_false_iff_ne.2 (fun e => hc (hr.1 e))
    clear hr hc
    go_wp2
    go_ret
    exact ⟨by simp, HF6.out⟩

set_option maxRecDepth 100000 in
theorem contract (H : Type) (enc : TypeId × Value → H) (W : World) (base : Nat) (args : Array Value) (ds gs : List (DataW H)) (before : List MemPlace)
    (hval : ∀ (j : Nat) t v, Tryd.f3.params[j]? = some t → args[j]? = some v → Value.okWide Tryd.prog W .any base t v)
    (hW : DataW.Whole enc Tryd.prog Tryd.f3.params.toList Rows.streamCleansSpec.vars false W args.toList ds gs before) (hbk : Rows.uptoSmall H (ds ++ gs) = true)
    (hsz : (DataW.weightsEach Tryd.prog (Tryd.f3.params.toList ++ []) (ds ++ gs)).all (· ≤ reachBytes) = true) (hsh : W.ShapedOpen Tryd.prog) (hL : laidMetH Tryd.prog Rows.streamCleansRow.laid W) :
    Calls Tryd.prog 3 args W fun e W' => ∃ v, e = .returned v ∧ Rows.streamCleansSpec.post enc Tryd.prog Tryd.f3 false true false false W args v W' := by
  have hW' := hW
  obtain ⟨p, q, hA0, hV, rfl, hfz, hnd⟩ := hW
  have hA : DataW.TrodAll enc Tryd.prog W 0 (fun _ => true) true Tryd.f3.params.toList args.toList ds p := hA0
  rw [Tryd.params3] at hA hval hsz
  obtain ⟨rfl, rfl⟩ := trodVars_none hV
  obtain ⟨v0, d0, rfl, rfl, h0⟩ := trodAll_one hA
  have hbd := bulk_le hbk
  simp only [List.append_nil, Rows.uptoBulkAll, Nat.add_zero] at hbd
  obtain ⟨l, rfl, hl⟩ := str_of (hval 0 9 v0 rfl rfl) h0 (by omega)
  refine (walk W l hl (tbm_of hL hsh)).mono fun e W' ⟨he, hk⟩ => ?_
  subst he
  exact ⟨_, rfl, post_law rfl (by kernel_rfl) (by kernel_rfl) hW' rfl hk⟩

set_option maxRecDepth 100000 in
theorem laid_met (os : Os) : laidMet Tryd.prog Rows.streamCleansUptoRow.laid ((layIn (World.holding Tryd.prog os ⟨#[], #[], []⟩)).forCall (fun _ _ => 0) ⟨#[], #[.string ⟨#[]⟩], []⟩).memory :=
  laidMet_of_run' 8 (by kernel_rfl) (by kernel_rfl)
set_option maxRecDepth 100000 in
theorem reads (os : Os) {H : Type} (enc : TypeId × Value → H) : ∃ places, DataW.whole enc Tryd.prog ((layIn (World.holding Tryd.prog os ⟨#[], #[], []⟩)).forCall (fun _ _ => 0) ⟨#[], #[.string ⟨#[]⟩], []⟩).memory Tryd.f3.params.toList Rows.streamCleansSpec.vars false (#[.string ⟨#[]⟩] : Array Value).toList 8 = some ([.lit (.string [])], [], places) :=
  ⟨[], by kernel_rfl⟩

set_option maxRecDepth 100000 in
theorem lifted (os : Os) (started : os.Started) (H : Type) (enc : TypeId × Value → H) (F : Stop.Interp) :
    ReturnsInHanded {} Tryd.checked os 3 .any ((Rows.OpenSpec.upto Rows.streamCleansSpec).preRow enc Tryd.prog Tryd.f3 Rows.streamCleansUptoRow.domain false Rows.streamCleansUptoRow.laid) (((Rows.OpenSpec.upto Rows.streamCleansSpec).at F).post enc Tryd.prog Tryd.f3 false true false false) := by
  obtain ⟨places, hx⟩ := reads os enc
  refine returnsInHanded_of_row (C := Tryd.checked) (s := Rows.OpenSpec.upto Rows.streamCleansSpec) Tryd.own started (by kernel_rfl) Tryd.func3
    (witness_row_at (enc := enc) (C := Tryd.checked) false (layIn (World.holding Tryd.prog os ⟨#[], #[], []⟩)) #[.string ⟨#[]⟩] rfl (by kernel_rfl) (by kernel_rfl) (by kernel_rfl)
      (OpenSpec.preRow_of_cond 8 hx (by kernel_rfl) (fun k hk => by cases hk; kernel_rfl) (by kernel_rfl) (laid_met os))) ?_
  intro W base args ds gs before hval hW _ hc hsz hL hsh _
  exact contract H enc W base args ds gs before hval hW (hc _ rfl) hsz hsh hL

theorem said : Rows.StreamCleansUptoSaid :=
  OpenClaim.holds_of_cond 3 Tryd.f3 rfl rfl rfl rfl rfl rfl rfl ⟨rfl, rfl, rfl, rfl, rfl⟩ rfl rfl rfl rfl rfl (by kernel_rfl) Tryd.func3 (by kernel_rfl)
    (of_decide_eq_true (by kernel_rfl)) (by unfold Func.isWrapper; first | (rw [if_pos (by decide +kernel)]; kernel_rfl) | (rw [if_neg (by decide +kernel)]; exact ⟨rfl, rfl⟩))
    (fun os started H enc _ F => by rw [OpenClaim.pre_eq_preRow]; exact lifted os started H enc F)

theorem plain (f : FuncId) (fn : Func) (hf : Tryd.pinned.checked.prog.funcNamed Rows.streamCleansUptoRow.func = some f) (hfn : Tryd.pinned.checked.prog.funcs[f]? = some fn) :
    false = Tryd.pinned.checked.prog.looks [] ∧ ∀ (j : Nat) t, fn.params[j]? = some t → Tryd.pinned.checked.prog.wantsStandIn t = false := by
  obtain rfl : f = 3 := Option.some.inj ((show Tryd.prog.funcNamed Rows.streamCleansUptoRow.func = some 3 by kernel_rfl).symm.trans hf) |>.symm
  obtain rfl : fn = Tryd.f3 := (Option.some.inj (Tryd.func3.symm.trans hfn)).symm
  refine ⟨by kernel_rfl, fun j t ht => ?_⟩
  have hall : (Tryd.f3.params.toList.all fun u => !Tryd.prog.wantsStandIn u) = true := by kernel_rfl
  exact (show Tryd.prog.wantsStandIn t = false by simpa using List.all_eq_true.1 hall t (Array.mem_toList_iff.2 (Array.mem_of_getElem? ht)))

theorem card : Rows.StreamCleansUptoCardSaid :=
  Claim7.holds_tied_plain_at .later [] _ _ _ _ said (fun _ h => by cases h) (by kernel_rfl) (fun _ h => by cases h) streamCleansUpto_row_tie rfl ⟨rfl, rfl⟩ (by kernel_rfl) rfl plain (by kernel_rfl)

end Go.Proofs.YtkkaaoflolgaiaaDoor.SCleans
namespace Go.Proofs.YtkkaaoflolgaiaaDoor
theorem streamCleans_upto_card : Rows.StreamCleansUptoCardSaid := SCleans.card
end Go.Proofs.YtkkaaoflolgaiaaDoor
