/-
  For every list of weights and every list of numbers the statement SoftMean answers true: awake does; Mean is the document's; both lists stay as they are; its card, tied to the program's text.
-/
import Derived.Test.YtohoppnpbgplnaaDoorSfd
import Derived.Test.YtohoppnpbgplnaaDoorSfw
import Derived.Test.YtohoppnpbgplnaaDoorNof
namespace Go.Proofs.YtohoppnpbgplnaaDoor.SMean
open Go.ChangeShapes Go.WideShapes Go.ChangeAt Go.RowKit Go.Lib Go.Maps

set_option maxHeartbeats 4000000 in
set_option maxRecDepth 100000 in
theorem walk (lv gv : Value) (zs gs : List Int) (w : World) (hB : Bend w) (hl : Rk .i64 (fun b => b < w.heap.size) w lv zs) (hg : Rk .i8 (fun b => b < w.heap.size) w gv gs) :
    Calls Tryd.prog 4 #[lv, gv] w fun e w' => e = .returned (.bool true) ∧ Fresh w w' := by
  obtain ⟨t, W0, hr1, hF0, hR0⟩ := copy_of ty64 hl
  obtain ⟨u, W1, hr2, hF01, hR1⟩ := copy_of ty8 (hg.fresh hF0)
  have hF1 : Fresh w W1 := hF0.trans hF01 (fun _ _ e => e)
  have HL : Hid (∀ W, Fresh W1 W → Bend W ∧ (Rk .i64 (fun b => b < w.heap.size) W lv zs ∧ Rk .i64 (fun b => w.heap.size ≤ b ∧ b < W0.heap.size) W t zs) ∧ (Rk .i8 (fun b => b < w.heap.size) W gv gs ∧ Rk .i8 (fun b => W0.heap.size ≤ b ∧ b < W1.heap.size) W u gs)) := fun W hF => ⟨(hB.fresh hF1).fresh hF, ⟨hl.fresh (hF1.trans hF (fun _ _ e => e)), (hR0.fresh hF01).fresh hF⟩, hg.fresh (hF1.trans hF (fun _ _ e => e)), hR1.fresh hF⟩
  have H1 : Hid (Unit → _) := fun (_ : Unit) => Mean_any _ _ _ _ _ _ W1 (HL.out W1 (Kept.refl _ _)).2.1.1 (HL.out W1 (Kept.refl _ _)).2.2.1
  have HF1 : Hid (Fresh w W1) := hF1
  obtain ⟨ao, ac, rfl, _⟩ := hl.shape
  obtain ⟨bo, bc, rfl, _⟩ := hR0.shape
  obtain ⟨co, cc, rfl, _⟩ := hg.shape
  obtain ⟨eo, ec, rfl, _⟩ := hR1.shape
  clear hl hR1 hF1 hg hR0 hF0 hF01 hB
  have HM : Hid (Drew W1 W1) := Drew.refl _
  go_enter Tryd.func4, Tryd.ntmps4
  go_wp2_with (at_builtin; first | (refine Lib.wpList_append_run _ rfl _ _ _ _ rfl _ _ rfl rfl _ _ hr1 ?_; clear hr1) | (refine Lib.wpList_append_run _ rfl _ _ _ _ rfl _ _ rfl rfl _ _ hr2 ?_; clear hr2))
  refine (H1.out ()).mono ?_
  rintro e w2 ⟨rfl, n2, hw2⟩
  have HF2 : Hid (Fresh W1 w2) := by show Fresh _ _; rw [hw2]; exact (Kept.refl _ _).drewN n2
  have H2 : Hid (Unit → _) := fun (_ : Unit) => refMean_any _ _ _ _ _ _ w2 (HL.out w2 HF2.out).2.1.2 (HL.out w2 HF2.out).2.2.2
  clear H1 hw2
  go_wp2_with fail
  refine (H2.out ()).mono ?_
  rintro e w3 ⟨rfl, n3, hw3⟩
  have HF3 : Hid (Fresh W1 w3) := by show Fresh _ _; rw [hw3]; exact HF2.out.drewN n3
  have HAW : Hid (Unit → _) := fun (_ : Unit) => awake_any w3 (HL.out w3 HF3.out).1
  clear H2 HF2 hw3
  generalize meV zs gs = M at *
  generalize meE zs gs.length = E at *
  go_wp2_with fail
  refine (HAW.out ()).mono ?_
  rintro e w4 ⟨rfl, hF4⟩
  have HF5 : Hid (Fresh W1 w4) := HF3.out.trans hF4 (fun _ _ e => e)
  have H5 : Hid (Unit → _) := fun (_ : Unit) => longs_any _ _ _ _ zs w4 (HL.out w4 HF5.out).2.1.1 (HL.out w4 HF5.out).2.1.2
  clear hF4 HF3 HAW
  go_wp2_with fail
  refine (H5.out ()).mono ?_
  rintro e w6 ⟨rfl, n6, hw6⟩
  have HF6 : Hid (Fresh W1 w6) := by show Fresh _ _; rw [hw6]; exact HF5.out.drewN n6
  have H6 : Hid (Unit → _) := fun (_ : Unit) => rows_any _ _ _ _ gs w6 (HL.out w6 HF6.out).2.2.1 (HL.out w6 HF6.out).2.2.2
  clear hw6 H5 HF5 HL
  go_wp2_with fail
  refine (H6.out ()).mono ?_
  rintro e w7 ⟨rfl, n7, hw7⟩
  have HF7 : Hid (Fresh w w7) := by show Fresh _ _; rw [hw7]; exact HF1.out.trans (HF6.out.drewN n7) (fun _ _ e => e)
  clear hw7 H6 HF6
  go_wp2
  go_ret
  exact ⟨by simp, HF7.out⟩

set_option maxRecDepth 100000 in
theorem contract (H : Type) (enc : TypeId × Value → H) (W : World) (base : Nat) (args : Array Value) (ds gs : List (DataW H)) (before : List MemPlace)
    (hval : ∀ (j : Nat) t v, Tryd.f4.params[j]? = some t → args[j]? = some v → Value.okWide Tryd.prog W .any base t v)
    (hW : DataW.Whole enc Tryd.prog Tryd.f4.params.toList Rows.softMeanSpec.vars false W args.toList ds gs before) 
    (hsz : (DataW.weightsEach Tryd.prog (Tryd.f4.params.toList ++ []) (ds ++ gs)).all (· ≤ reachBytes) = true) (hL : laidMetH Tryd.prog Rows.softMeanRow.laid W) :
    Calls Tryd.prog 4 args W fun e W' => ∃ v, e = .returned v ∧ Rows.softMeanSpec.post enc Tryd.prog Tryd.f4 false true false false W args v W' := by
  have hW' := hW
  obtain ⟨p, q, hA0, hV, rfl, hfz, hnd⟩ := hW
  have hA : DataW.TrodAll enc Tryd.prog W 0 (fun _ => true) true Tryd.f4.params.toList args.toList ds p := hA0
  rw [Tryd.params4] at hA hval hsz
  obtain ⟨rfl, rfl⟩ := trodVars_none hV
  obtain ⟨v0, v1, d0, d1, p0, p1, rfl, rfl, rfl, h0, h1⟩ := trodAll_two hA
  obtain ⟨zs, hz⟩ := arg64 (hval 0 22 v0 rfl rfl) h0 hsz (j := 0) rfl rfl
  obtain ⟨gs, hg⟩ := arg8 (hval 1 31 v1 rfl rfl) h1 hsz (j := 1) rfl rfl
  refine (walk v0 v1 zs gs W (bend_of_laid hL) hz hg).mono fun e W' ⟨he, hk⟩ => ?_
  subst he
  exact ⟨_, rfl, post_law rfl (by kernel_rfl) (by kernel_rfl) hW' rfl hk⟩

set_option maxRecDepth 100000 in
theorem laid_met (os : Os) : laidMet Tryd.prog Rows.softMeanRow.laid ((layIn (World.holding Tryd.prog os ⟨#[], #[], []⟩)).forCall (fun _ _ => 0) ⟨#[], #[.slice none 0 0, .slice none 0 0], []⟩).memory :=
  laidMet_of_run' 8 (by kernel_rfl) (by kernel_rfl)
set_option maxRecDepth 100000 in
theorem reads (os : Os) {H : Type} (enc : TypeId × Value → H) : ∃ places, DataW.whole enc Tryd.prog ((layIn (World.holding Tryd.prog os ⟨#[], #[], []⟩)).forCall (fun _ _ => 0) ⟨#[], #[.slice none 0 0, .slice none 0 0], []⟩).memory Tryd.f4.params.toList Rows.softMeanSpec.vars false (#[.slice none 0 0, .slice none 0 0] : Array Value).toList 8 = some ([.nil, .nil], [], places) :=
  ⟨[], by kernel_rfl⟩

set_option maxRecDepth 100000 in
theorem lifted (os : Os) (started : os.Started) (H : Type) (enc : TypeId × Value → H) (F : Stop.Interp) :
    ReturnsInHanded {} Tryd.checked os 4 .any ((OpenSpec.ofChange Rows.softMeanSpec).preRow enc Tryd.prog Tryd.f4 Rows.softMeanRow.domain false Rows.softMeanRow.laid) (((OpenSpec.ofChange Rows.softMeanSpec).at F).post enc Tryd.prog Tryd.f4 false true false false) := by
  obtain ⟨places, hx⟩ := reads os enc
  refine returnsInHanded_of_row (C := Tryd.checked) (s := OpenSpec.ofChange Rows.softMeanSpec) Tryd.own started (by kernel_rfl) Tryd.func4
    (witness_row_at (enc := enc) (C := Tryd.checked) false (layIn (World.holding Tryd.prog os ⟨#[], #[], []⟩)) #[.slice none 0 0, .slice none 0 0] rfl (by kernel_rfl) (by kernel_rfl) (by kernel_rfl)
      (OpenSpec.preRow_of_cond 8 hx (by kernel_rfl) (fun k hk => by cases hk) (by kernel_rfl) (laid_met os))) ?_
  intro W base args ds gs before hval hW _ hc hsz hL _ _
  exact contract H enc W base args ds gs before hval hW hsz hL

theorem said : Rows.SoftMeanSaid :=
  OpenClaim.holds_of_cond 4 Tryd.f4 rfl rfl rfl rfl rfl rfl rfl ⟨rfl, rfl, rfl, rfl, rfl⟩ rfl rfl rfl rfl rfl (by kernel_rfl) Tryd.func4 (by kernel_rfl)
    (of_decide_eq_true (by kernel_rfl)) (by unfold Func.isWrapper; first | (rw [if_pos (by decide +kernel)]; kernel_rfl) | (rw [if_neg (by decide +kernel)]; exact ⟨rfl, rfl⟩))
    (fun os started H enc _ F => by rw [OpenClaim.pre_eq_preRow]; exact lifted os started H enc F)

theorem plain (f : FuncId) (fn : Func) (hf : Tryd.pinned.checked.prog.funcNamed Rows.softMeanRow.func = some f) (hfn : Tryd.pinned.checked.prog.funcs[f]? = some fn) :
    false = Tryd.pinned.checked.prog.looks [] ∧ ∀ (j : Nat) t, fn.params[j]? = some t → Tryd.pinned.checked.prog.wantsStandIn t = false := by
  obtain rfl : f = 4 := Option.some.inj ((show Tryd.prog.funcNamed Rows.softMeanRow.func = some 4 by kernel_rfl).symm.trans hf) |>.symm
  obtain rfl : fn = Tryd.f4 := (Option.some.inj (Tryd.func4.symm.trans hfn)).symm
  refine ⟨by kernel_rfl, fun j t ht => ?_⟩
  have hall : (Tryd.f4.params.toList.all fun u => !Tryd.prog.wantsStandIn u) = true := by kernel_rfl
  exact (show Tryd.prog.wantsStandIn t = false by simpa using List.all_eq_true.1 hall t (Array.mem_toList_iff.2 (Array.mem_of_getElem? ht)))

theorem card : Rows.SoftMeanCardSaid :=
  Claim7.holds_tied_plain_at .later [] _ _ _ _ said (fun _ h => by cases h) (by kernel_rfl) (fun _ h => by cases h) softMean_row_tie rfl ⟨rfl, rfl⟩ (by kernel_rfl) rfl plain (by kernel_rfl)

end Go.Proofs.YtohoppnpbgplnaaDoor.SMean
namespace Go.Proofs.YtohoppnpbgplnaaDoor
theorem softMean_card : Rows.SoftMeanCardSaid := SMean.card
end Go.Proofs.YtohoppnpbgplnaaDoor
