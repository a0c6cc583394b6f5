/-
  For every list of weights and every list of rows the statement SoftMeans answers true: awake does; Means is the document's; its card, tied to the program's text.
-/
import Derived.Test.YtohoppnpbgplnaaDoorSfh
import Derived.Test.YtohoppnpbgplnaaDoorSfq
import Derived.Test.YtohoppnpbgplnaaDoorSfw
import Derived.Test.YtohoppnpbgplnaaDoorNof
namespace Go.Proofs.YtohoppnpbgplnaaDoor.SMeans
open Go.ChangeShapes Go.WideShapes Go.ChangeAt Go.RowKit Go.Lib Go.Maps

set_option maxHeartbeats 4000000 in
set_option maxRecDepth 100000 in
theorem walk (lv gv : Value) (ws : List Int) (L : List (List Int)) (w : World) (hB : Bend w) (hl : Rk .i64 (fun b => b < w.heap.size) w lv ws) (hg : LL .i8 (fun b => b < w.heap.size) w gv L) :
    Calls Tryd.prog 5 #[lv, gv] w fun e w' => e = .returned (.bool true) ∧ Fresh w w' := by
  have HL : Hid (∀ W, Fresh w W → Bend W ∧ Rk .i64 (fun b => b < w.heap.size) W lv ws ∧ LL .i8 (fun b => b < w.heap.size) W gv L) := fun W hF => ⟨hB.fresh hF, hl.fresh hF, hg.fresh hF⟩
  have H1 : Hid (Unit → _) := fun (_ : Unit) => Means_any _ _ _ _ ws L w hl hg
  have HRL : Hid ((msL ws L).length * kb .i8 ≤ 140737488351232 ∧ ∀ z ∈ msL ws L, Fit .i8 z) := ⟨by have h1 := msL_len ws L; have h2 := hg.room; simp only [kb] at *; omega, msL_fit hg.c8⟩
  obtain ⟨ao, ac, rfl, _⟩ := hl.shape
  obtain ⟨co, cc, rfl, _⟩ := hg.shape
  clear hl hg hB
  go_enter Tryd.func5, Tryd.ntmps5
  go_wp2_with fail
  refine (H1.out ()).mono ?_
  rintro e w2 hG
  obtain ⟨v2, rfl, hR2, hF2⟩ := hG.row HRL.out.1 HRL.out.2
  have HF2 : Hid (Fresh w w2) := hF2
  have HR2 : Hid (Rk .i8 (fun b => w.heap.size ≤ b ∧ b < w2.heap.size) w2 v2 (msL ws L)) := hR2
  have H2 : Hid (Unit → _) := fun (_ : Unit) => refMeans_any _ _ _ _ ws L w2 (HL.out w2 hF2).2.1 (HL.out w2 hF2).2.2
  clear H1 hF2 hG hR2
  go_wp2_with fail
  refine (H2.out ()).mono ?_
  rintro e w3 hG
  obtain ⟨v3, rfl, hR3, hF3⟩ := hG.row HRL.out.1 HRL.out.2
  have HF3 : Hid (Fresh w w3) := HF2.out.trans hF3 (fun _ _ e => e)
  have HR3 : Hid (∀ W, Fresh w3 W → Rk .i8 (fun b => w.heap.size ≤ b ∧ b < w2.heap.size) W v2 (msL ws L) ∧ Rk .i8 (fun b => w2.heap.size ≤ b ∧ b < w3.heap.size) W v3 (msL ws L)) := fun W hF => ⟨(HR2.out.fresh hF3).fresh hF, hR3.fresh hF⟩
  have HAW : Hid (Unit → _) := fun (_ : Unit) => awake_any w3 (HL.out w3 HF3.out).1
  clear H2 HF2 hF3 hG hR3 HR2 HL
  go_wp2_with fail
  refine (HAW.out ()).mono ?_
  rintro e w4 ⟨rfl, hF4⟩
  have HF4 : Hid (Fresh w w4) := HF3.out.trans hF4 (fun _ _ e => e)
  have H4 : Hid (Unit → _) := fun (_ : Unit) => rows_any _ _ _ _ _ w4 (HR3.out w4 hF4).1 (HR3.out w4 hF4).2
  clear hF4 HF3 HAW HR3
  generalize msE ws L = E at *
  go_wp2_with fail
  refine (H4.out ()).mono ?_
  rintro e w5 ⟨rfl, n5, hw5⟩
  have HF5 : Hid (Fresh w w5) := by show Fresh _ _; rw [hw5]; exact HF4.out.drewN n5
  clear hw5 H4 HF4
  go_wp2
  go_ret
  exact ⟨by simp, HF5.out⟩

set_option maxRecDepth 100000 in
theorem contract (H : Type) (enc : TypeId × Value → H) (W : World) (base : Nat) (args : Array Value) (ds gs : List (DataW H)) (before : List MemPlace)
    (hval : ∀ (j : Nat) t v, Tryd.f5.params[j]? = some t → args[j]? = some v → Value.okWide Tryd.prog W .any base t v)
    (hW : DataW.Whole enc Tryd.prog Tryd.f5.params.toList Rows.softMeansSpec.vars false W args.toList ds gs before) 
    (hsz : (DataW.weightsEach Tryd.prog (Tryd.f5.params.toList ++ []) (ds ++ gs)).all (· ≤ reachBytes) = true) (hL : laidMetH Tryd.prog Rows.softMeansRow.laid W) :
    Calls Tryd.prog 5 args W fun e W' => ∃ v, e = .returned v ∧ Rows.softMeansSpec.post enc Tryd.prog Tryd.f5 false true false false W args v W' := by
  have hW' := hW
  obtain ⟨p, q, hA0, hV, rfl, hfz, hnd⟩ := hW
  have hA : DataW.TrodAll enc Tryd.prog W 0 (fun _ => true) true Tryd.f5.params.toList args.toList ds p := hA0
  rw [Tryd.params5] at hA hval hsz
  obtain ⟨rfl, rfl⟩ := trodVars_none hV
  obtain ⟨v0, v1, d0, d1, p0, p1, rfl, rfl, rfl, h0, h1⟩ := trodAll_two hA
  obtain ⟨zs, hz⟩ := arg64 (hval 0 22 v0 rfl rfl) h0 hsz (j := 0) rfl rfl
  obtain ⟨L, hLL⟩ := argL8 (hval 1 39 v1 rfl rfl) h1 hsz (j := 1) rfl rfl
  refine (walk v0 v1 zs L W (bend_of_laid hL) hz hLL).mono fun e W' ⟨he, hk⟩ => ?_
  subst he
  exact ⟨_, rfl, post_law rfl (by kernel_rfl) (by kernel_rfl) hW' rfl hk⟩

set_option maxRecDepth 100000 in
theorem laid_met (os : Os) : laidMet Tryd.prog Rows.softMeansRow.laid ((layIn (World.holding Tryd.prog os ⟨#[], #[], []⟩)).forCall (fun _ _ => 0) ⟨#[], #[.slice none 0 0, .slice none 0 0], []⟩).memory :=
  laidMet_of_run' 8 (by kernel_rfl) (by kernel_rfl)
set_option maxRecDepth 100000 in
theorem reads (os : Os) {H : Type} (enc : TypeId × Value → H) : ∃ places, DataW.whole enc Tryd.prog ((layIn (World.holding Tryd.prog os ⟨#[], #[], []⟩)).forCall (fun _ _ => 0) ⟨#[], #[.slice none 0 0, .slice none 0 0], []⟩).memory Tryd.f5.params.toList Rows.softMeansSpec.vars false (#[.slice none 0 0, .slice none 0 0] : Array Value).toList 8 = some ([.nil, .nil], [], places) :=
  ⟨[], by kernel_rfl⟩

set_option maxRecDepth 100000 in
theorem lifted (os : Os) (started : os.Started) (H : Type) (enc : TypeId × Value → H) (F : Stop.Interp) :
    ReturnsInHanded {} Tryd.checked os 5 .any ((OpenSpec.ofChange Rows.softMeansSpec).preRow enc Tryd.prog Tryd.f5 Rows.softMeansRow.domain false Rows.softMeansRow.laid) (((OpenSpec.ofChange Rows.softMeansSpec).at F).post enc Tryd.prog Tryd.f5 false true false false) := by
  obtain ⟨places, hx⟩ := reads os enc
  refine returnsInHanded_of_row (C := Tryd.checked) (s := OpenSpec.ofChange Rows.softMeansSpec) Tryd.own started (by kernel_rfl) Tryd.func5
    (witness_row_at (enc := enc) (C := Tryd.checked) false (layIn (World.holding Tryd.prog os ⟨#[], #[], []⟩)) #[.slice none 0 0, .slice none 0 0] rfl (by kernel_rfl) (by kernel_rfl) (by kernel_rfl)
      (OpenSpec.preRow_of_cond 8 hx (by kernel_rfl) (fun k hk => by cases hk) (by kernel_rfl) (laid_met os))) ?_
  intro W base args ds gs before hval hW _ hc hsz hL _ _
  exact contract H enc W base args ds gs before hval hW hsz hL

theorem said : Rows.SoftMeansSaid :=
  OpenClaim.holds_of_cond 5 Tryd.f5 rfl rfl rfl rfl rfl rfl rfl ⟨rfl, rfl, rfl, rfl, rfl⟩ rfl rfl rfl rfl rfl (by kernel_rfl) Tryd.func5 (by kernel_rfl)
    (of_decide_eq_true (by kernel_rfl)) (by unfold Func.isWrapper; first | (rw [if_pos (by decide +kernel)]; kernel_rfl) | (rw [if_neg (by decide +kernel)]; exact ⟨rfl, rfl⟩))
    (fun os started H enc _ F => by rw [OpenClaim.pre_eq_preRow]; exact lifted os started H enc F)

theorem plain (f : FuncId) (fn : Func) (hf : Tryd.pinned.checked.prog.funcNamed Rows.softMeansRow.func = some f) (hfn : Tryd.pinned.checked.prog.funcs[f]? = some fn) :
    false = Tryd.pinned.checked.prog.looks [] ∧ ∀ (j : Nat) t, fn.params[j]? = some t → Tryd.pinned.checked.prog.wantsStandIn t = false := by
  obtain rfl : f = 5 := Option.some.inj ((show Tryd.prog.funcNamed Rows.softMeansRow.func = some 5 by kernel_rfl).symm.trans hf) |>.symm
  obtain rfl : fn = Tryd.f5 := (Option.some.inj (Tryd.func5.symm.trans hfn)).symm
  refine ⟨by kernel_rfl, fun j t ht => ?_⟩
  have hall : (Tryd.f5.params.toList.all fun u => !Tryd.prog.wantsStandIn u) = true := by kernel_rfl
  exact (show Tryd.prog.wantsStandIn t = false by simpa using List.all_eq_true.1 hall t (Array.mem_toList_iff.2 (Array.mem_of_getElem? ht)))

theorem card : Rows.SoftMeansCardSaid :=
  Claim7.holds_tied_plain_at .later [] _ _ _ _ said (fun _ h => by cases h) (by kernel_rfl) (fun _ h => by cases h) softMeans_row_tie rfl ⟨rfl, rfl⟩ (by kernel_rfl) rfl plain (by kernel_rfl)

end Go.Proofs.YtohoppnpbgplnaaDoor.SMeans
namespace Go.Proofs.YtohoppnpbgplnaaDoor
theorem softMeans_card : Rows.SoftMeansCardSaid := SMeans.card
end Go.Proofs.YtohoppnpbgplnaaDoor
