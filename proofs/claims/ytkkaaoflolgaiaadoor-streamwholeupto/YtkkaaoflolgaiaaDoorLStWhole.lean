/-
  For all stop texts and every text the statement StreamWhole answers true: Whole answers as the document has it.
-/
import Derived.Test.YtkkaaoflolgaiaaDoorStq
import Derived.Test.YtkkaaoflolgaiaaDoorSto
namespace Go.Proofs.YtkkaaoflolgaiaaDoor.SWhole
open Go.ChangeShapes Go.WideShapes Go.ChangeAt Go.RowKit Go.Lib Go.Maps

set_option maxHeartbeats 4000000 in
set_option maxRecDepth 100000 in
theorem walk {p : Nat → Prop} (w : World) (v : Value) (T : List (List UInt8)) (l : List UInt8) (hR : TxR p w v T) (hl : l.length ≤ 1048576) (hm : TbM w) :
    Calls Tryd.prog 6 #[v, sV l] w fun e w' => e = .returned (.bool true) ∧ Fresh w w' := by
  have HA := show Hid _ from awake_any w hm
  have HW : Hid (∀ W, Fresh w W → Calls Tryd.prog 16 #[v, sV l] W fun e w' => e = .returned (.tuple #[sV (whO T l), zV (whP T l), zV (chkF T)]) ∧ Fresh W w') := fun W hk => Whole_any T l v W (by omega) (hR.fresh hk) (hm.fresh hk)
  have HK : Hid (∀ W, Fresh w W → Calls Tryd.prog 17 #[v] W fun e w' => e = .returned (zV (chkF T)) ∧ Fresh W w') := fun W hk => refCheck_any T v W (hR.fresh hk)
  have HCu : Hid (chkF T = 0 → ∀ W, Fresh w W → Calls Tryd.prog 18 #[v, sV l] W fun e w' => e = .returned (.tuple #[sV (cuS T l), zV (cuM T l)]) ∧ Fresh W w') := fun hc W hk => refCut_any T l v W (by omega) (hR.fresh hk) (chk_ok hc).2.ne
  have HCl : Hid (∀ W, Calls Tryd.prog 11 #[sV (cuS T l)] W fun e w' => e = .returned (sV (clL (cuS T l))) ∧ Fresh W w') := fun W => refClean_any (cuS T l) W (by have := cuS_le T l; omega)
  have HO : Hid ((chkF T = 0 → whO T l = clL (cuS T l) ∧ whP T l = cuM T l) ∧ (chkF T ≠ 0 → whO T l = [] ∧ whP T l = 0)) :=
    ⟨fun h => ⟨by unfold whO; rw [if_pos h], by unfold whP; rw [if_pos h]⟩, fun h => ⟨by unfold whO; rw [if_neg h], by unfold whP; rw [if_neg h]⟩⟩
  obtain ⟨ao, cap, rfl⟩ := hR.shape
  clear hR hm
  generalize whO T l = O at *
  generalize whP T l = P at *
  generalize T.length = tn at *
  generalize chkF T = E at *
  by_cases hc : E = 0
  · obtain ⟨o1, o2⟩ := HO.out.1 hc
    subst o1
    subst o2
    subst hc
    have HCu2 := show Hid _ from HCu.out rfl
    clear HO HCu
    generalize clL (cuS T l) = C at *
    generalize cuS T l = D at *
    generalize cuM T l = M at *
    go_enter Tryd.func6, Tryd.ntmps6
    go_wp2_with fail
    refine Calls.mono HA.out ?_
    rintro e' W1 ⟨rfl, hF1⟩
    have HF1 : Hid (Fresh w W1) := hF1
    have HW1 := show Hid _ from HW.out W1 hF1
    clear HA hF1 HW
    go_wp2_with fail
    refine Calls.mono HW1.out ?_
    rintro e' W2 ⟨rfl, hF2⟩
    have HF2 : Hid (Fresh w W2) := HF1.out.trans hF2 (fun _ _ e => e)
    have HK2 := show Hid _ from HK.out W2 HF2.out
    clear HW1 hF2 HF1 HK
    go_wp2_with fail
    refine Calls.mono HK2.out ?_
    rintro e' W3 ⟨rfl, hF3⟩
    have HF3 : Hid (Fresh w W3) := HF2.out.trans hF3 (fun _ _ e => e)
    have HC3 := show Hid _ from HCu2.out W3 HF3.out
    clear HK2 hF3 HF2 HCu2
    go_wp2_with fail
    refine Calls.mono HC3.out ?_
    rintro e' W4 ⟨rfl, hF4⟩
    have HF4 : Hid (Fresh w W4) := HF3.out.trans hF4 (fun _ _ e => e)
    have HC4 := show Hid _ from HCl.out W4
    clear HC3 hF4 HF3 HCl
    go_wp2_with fail
    refine Calls.mono HC4.out ?_
    rintro e' W5 ⟨rfl, hF5⟩
    have HF5 : Hid (Fresh w W5) := HF4.out.trans hF5 (fun _ _ e => e)
    clear HC4 hF5 HF4
    go_wp2
    go_ret
    exact ⟨by simp, HF5.out⟩
  · obtain ⟨o1, o2⟩ := HO.out.2 hc
    subst o1
    subst o2
    have hcb : (E == 0) = false := beq_eq_false_iff_ne.2 hc
    clear HO HCu HCl hc
    go_enter Tryd.func6, Tryd.ntmps6
    go_wp2_with fail
    refine Calls.mono HA.out ?_
    rintro e' W1 ⟨rfl, hF1⟩
    have HF1 : Hid (Fresh w W1) := hF1
    have HW1 := show Hid _ from HW.out W1 hF1
    clear HA hF1 HW
    go_wp2_with fail
    refine Calls.mono HW1.out ?_
    rintro e' W2 ⟨rfl, hF2⟩
    have HF2 : Hid (Fresh w W2) := HF1.out.trans hF2 (fun _ _ e => e)
    have HK2 := show Hid _ from HK.out W2 HF2.out
    clear HW1 hF2 HF1 HK
    go_wp2_with fail
    refine Calls.mono HK2.out ?_
    rintro e' W3 ⟨rfl, hF3⟩
    have HF3 : Hid (Fresh w W3) := HF2.out.trans hF3 (fun _ _ e => e)
    clear HK2 hF3 HF2
    go_wp2
    go_ret
    exact ⟨by simp, HF3.out⟩

set_option maxRecDepth 100000 in
theorem contract (H : Type) (enc : TypeId × Value → H) (W : World) (base : Nat) (args : Array Value) (ds gs : List (DataW H)) (before : List MemPlace)
    (hval : ∀ (j : Nat) t v, Tryd.f6.params[j]? = some t → args[j]? = some v → Value.okWide Tryd.prog W .any base t v)
    (hW : DataW.Whole enc Tryd.prog Tryd.f6.params.toList Rows.streamWholeSpec.vars false W args.toList ds gs before) (hbk : Rows.uptoSmall H (ds ++ gs) = true)
    (hsz : (DataW.weightsEach Tryd.prog (Tryd.f6.params.toList ++ []) (ds ++ gs)).all (· ≤ reachBytes) = true) (hsh : W.ShapedOpen Tryd.prog) (hL : laidMetH Tryd.prog Rows.streamWholeRow.laid W) :
    Calls Tryd.prog 6 args W fun e W' => ∃ v, e = .returned v ∧ Rows.streamWholeSpec.post enc Tryd.prog Tryd.f6 false true false false W args v W' := by
  have hW' := hW
  obtain ⟨p, q, hA0, hV, rfl, hfz, hnd⟩ := hW
  have hA : DataW.TrodAll enc Tryd.prog W 0 (fun _ => true) true Tryd.f6.params.toList args.toList ds p := hA0
  rw [Tryd.params6] at hA hval hsz
  obtain ⟨rfl, rfl⟩ := trodVars_none hV
  obtain ⟨v0, v1, d0, d1, p0, p1, rfl, rfl, rfl, h0, h1⟩ := trodAll_two hA
  have hbd := bulk_le hbk
  simp only [List.append_nil, Rows.uptoBulkAll, Nat.add_zero] at hbd
  obtain ⟨T, hT⟩ := txr_of (hval 0 26 v0 rfl rfl) h0 (by omega)
  obtain ⟨l, rfl, hl⟩ := str_of (hval 1 9 v1 rfl rfl) h1 (by omega)
  refine (walk W v0 T l hT hl (tbm_of hL hsh)).mono fun e W' ⟨he, hk⟩ => ?_
  subst he
  exact ⟨_, rfl, post_law rfl (by kernel_rfl) (by kernel_rfl) hW' rfl hk⟩

set_option maxRecDepth 100000 in
theorem laid_met (os : Os) : laidMet Tryd.prog Rows.streamWholeUptoRow.laid ((layIn (World.holding Tryd.prog os ⟨#[], #[], []⟩)).forCall (fun _ _ => 0) ⟨#[], #[.slice none 0 0, .string ⟨#[]⟩], []⟩).memory :=
  laidMet_of_run' 8 (by kernel_rfl) (by kernel_rfl)
set_option maxRecDepth 100000 in
theorem reads (os : Os) {H : Type} (enc : TypeId × Value → H) : ∃ places, DataW.whole enc Tryd.prog ((layIn (World.holding Tryd.prog os ⟨#[], #[], []⟩)).forCall (fun _ _ => 0) ⟨#[], #[.slice none 0 0, .string ⟨#[]⟩], []⟩).memory Tryd.f6.params.toList Rows.streamWholeSpec.vars false (#[.slice none 0 0, .string ⟨#[]⟩] : Array Value).toList 8 = some ([.nil, .lit (.string [])], [], places) :=
  ⟨[], by kernel_rfl⟩

set_option maxRecDepth 100000 in
theorem lifted (os : Os) (started : os.Started) (H : Type) (enc : TypeId × Value → H) (F : Stop.Interp) :
    ReturnsInHanded {} Tryd.checked os 6 .any ((Rows.OpenSpec.upto Rows.streamWholeSpec).preRow enc Tryd.prog Tryd.f6 Rows.streamWholeUptoRow.domain false Rows.streamWholeUptoRow.laid) (((Rows.OpenSpec.upto Rows.streamWholeSpec).at F).post enc Tryd.prog Tryd.f6 false true false false) := by
  obtain ⟨places, hx⟩ := reads os enc
  refine returnsInHanded_of_row (C := Tryd.checked) (s := Rows.OpenSpec.upto Rows.streamWholeSpec) Tryd.own started (by kernel_rfl) Tryd.func6
    (witness_row_at (enc := enc) (C := Tryd.checked) false (layIn (World.holding Tryd.prog os ⟨#[], #[], []⟩)) #[.slice none 0 0, .string ⟨#[]⟩] rfl (by kernel_rfl) (by kernel_rfl) (by kernel_rfl)
      (OpenSpec.preRow_of_cond 8 hx (by kernel_rfl) (fun k hk => by cases hk; kernel_rfl) (by kernel_rfl) (laid_met os))) ?_
  intro W base args ds gs before hval hW _ hc hsz hL hsh _
  exact contract H enc W base args ds gs before hval hW (hc _ rfl) hsz hsh hL

theorem said : Rows.StreamWholeUptoSaid :=
  OpenClaim.holds_of_cond 6 Tryd.f6 rfl rfl rfl rfl rfl rfl rfl ⟨rfl, rfl, rfl, rfl, rfl⟩ rfl rfl rfl rfl rfl (by kernel_rfl) Tryd.func6 (by kernel_rfl)
    (of_decide_eq_true (by kernel_rfl)) (by unfold Func.isWrapper; first | (rw [if_pos (by decide +kernel)]; kernel_rfl) | (rw [if_neg (by decide +kernel)]; exact ⟨rfl, rfl⟩))
    (fun os started H enc _ F => by rw [OpenClaim.pre_eq_preRow]; exact lifted os started H enc F)

theorem plain (f : FuncId) (fn : Func) (hf : Tryd.pinned.checked.prog.funcNamed Rows.streamWholeUptoRow.func = some f) (hfn : Tryd.pinned.checked.prog.funcs[f]? = some fn) :
    false = Tryd.pinned.checked.prog.looks [] ∧ ∀ (j : Nat) t, fn.params[j]? = some t → Tryd.pinned.checked.prog.wantsStandIn t = false := by
  obtain rfl : f = 6 := Option.some.inj ((show Tryd.prog.funcNamed Rows.streamWholeUptoRow.func = some 6 by kernel_rfl).symm.trans hf) |>.symm
  obtain rfl : fn = Tryd.f6 := (Option.some.inj (Tryd.func6.symm.trans hfn)).symm
  refine ⟨by kernel_rfl, fun j t ht => ?_⟩
  have hall : (Tryd.f6.params.toList.all fun u => !Tryd.prog.wantsStandIn u) = true := by kernel_rfl
  exact (show Tryd.prog.wantsStandIn t = false by simpa using List.all_eq_true.1 hall t (Array.mem_toList_iff.2 (Array.mem_of_getElem? ht)))

theorem card : Rows.StreamWholeUptoCardSaid :=
  Claim7.holds_tied_plain_at .later [] _ _ _ _ said (fun _ h => by cases h) (by kernel_rfl) (fun _ h => by cases h) streamWholeUpto_row_tie rfl ⟨rfl, rfl⟩ (by kernel_rfl) rfl plain (by kernel_rfl)

end Go.Proofs.YtkkaaoflolgaiaaDoor.SWhole
namespace Go.Proofs.YtkkaaoflolgaiaaDoor
theorem streamWhole_upto_card : Rows.StreamWholeUptoCardSaid := SWhole.card
end Go.Proofs.YtkkaaoflolgaiaaDoor
