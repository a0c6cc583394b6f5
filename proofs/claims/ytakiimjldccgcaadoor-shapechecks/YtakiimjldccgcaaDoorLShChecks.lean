/-
  For every shape the statement ShapeChecks answers true: awake does; Check, Half and Numbers are the document's; its card, tied to the program's text.
-/
import Derived.Test.YtakiimjldccgcaaDoorShXToShLa
import Derived.Test.YtakiimjldccgcaaDoorShPl
import Derived.Test.YtakiimjldccgcaaDoorVcNToFrQ
import Derived.Deep.DeepHandedRow
namespace Go.Proofs.YtakiimjldccgcaaDoor.ShChecks
open Go.ChangeShapes Go.WideShapes Go.ChangeAt Go.RowKit Go.Lib Go.Maps

set_option maxHeartbeats 2000000 in
set_option maxRecDepth 100000 in
theorem walk (s : Shp) (w : World) (hS : Sin w) (hB : Bend w) :
    Calls Tryd.prog 3 #[s.val] w fun e w' => e = .returned (.bool true) ∧ Fresh w w' := by
  have HA : Hid (∀ X, Fresh w X → _) := fun X hX => awake_any X (hS.fresh hX) (hB.fresh hX)
  have HN : Hid (∀ X, _) := fun X => Numbers_any s X
  have HRN : Hid (∀ X, _) := fun X => refNumbers_any s X
  have HP : Hid (∀ X, _) := fun X => plain_any s X
  have HC : Hid (∀ X, Calls Tryd.prog 13 #[s.val] X fun e w' => e = .returned (zV (shE s)) ∧ Fresh X w') := fun X => (Check_any s X).mono fun e w' ⟨h1, h2⟩ => ⟨h1, by rw [h2]; exact (Kept.refl _ X).alloc _⟩
  have HRC : Hid (∀ X, Calls Tryd.prog 14 #[s.val] X fun e w' => e = .returned (zV (shE s)) ∧ Fresh X w') := fun X => (refCheck16_any s X).mono fun e w' ⟨h1, h2⟩ => ⟨h1, by rw [h2]; exact (Kept.refl _ X).alloc _⟩
  have HH : Hid (∀ X, _) := fun X => Half_any s X
  have HRH : Hid (∀ X, _) := fun X => refHalf_any s X
  generalize shE s = E at *
  generalize shN s = N at *
  generalize shH s = H at *
  have hE : (E == E) = true := beq_self_eq_true _
  have hN : (N == N) = true := beq_self_eq_true _
  have hH : (H == H) = true := beq_self_eq_true _
  obtain ⟨v, c, d, h, l, n⟩ := s
  unfold Shp.val at *
  simp only at *
  have HBX : Hid (∀ X, Fresh (w.alloc (.cells #[zV v, zV c, zV d, zV h, zV l, zV n] 23)) X → Fresh w X ∧ X.cell? ⟨w.heap.size, 0, none⟩ = some (zV v) ∧ X.cell? ⟨w.heap.size, 1, none⟩ = some (zV c) ∧ X.cell? ⟨w.heap.size, 2, none⟩ = some (zV d) ∧ X.cell? ⟨w.heap.size, 3, none⟩ = some (zV h) ∧ X.cell? ⟨w.heap.size, 4, none⟩ = some (zV l) ∧ X.cell? ⟨w.heap.size, 5, none⟩ = some (zV n)) := fun X hX => by
    have hb := hX.at (heap_alloc_new w (.cells #[zV v, zV c, zV d, zV h, zV l, zV n] 23)) (fun e => e)
    exact ⟨((Kept.refl _ w).alloc _).trans hX (fun _ _ e => e), by rw [Lib.cell_of_heap hb]; rfl, by rw [Lib.cell_of_heap hb]; rfl, by rw [Lib.cell_of_heap hb]; rfl, by rw [Lib.cell_of_heap hb]; rfl, by rw [Lib.cell_of_heap hb]; rfl, by rw [Lib.cell_of_heap hb]; rfl⟩
  clear hS hB
  go_enter Tryd.func3, Tryd.ntmps3
  go_upto_region 1 with fail
  have hW0 := (HBX.out _ (Kept.refl _ _)).1
  generalize w.alloc (.cells #[zV v, zV c, zV d, zV h, zV l, zV n] 23) = W0 at *
  go_wp2_with fail
  refine Calls.mono (HA.out W0 hW0) ?_
  rintro e X1 ⟨rfl, hf1⟩
  have HF1 : Hid (Fresh W0 X1) := hf1
  clear hf1 hW0 HA
  go_upto_region 3 with fail
  obtain ⟨_, c0, c1, c2, c3, c4, c5⟩ := HBX.out X1 HF1.out
  go_wp2_with fail
  refine Calls.mono (HN.out _) ?_
  rintro e X2 ⟨rfl, hf2⟩
  have HF2 : Hid (Fresh W0 X2) := HF1.out.trans hf2 (fun _ _ e => e)
  clear hf2 HF1 c0 c1 c2 c3 c4 c5 HN
  go_upto_region 4 with fail
  obtain ⟨_, c0, c1, c2, c3, c4, c5⟩ := HBX.out X2 HF2.out
  go_wp2_with fail
  refine Calls.mono (HP.out _) ?_
  rintro e X3 ⟨rfl, hf3⟩
  have HF3 : Hid (Fresh W0 X3) := HF2.out.trans hf3 (fun _ _ e => e)
  clear hf3 HF2 c0 c1 c2 c3 c4 c5
  go_wp2_with fail
  refine Calls.mono (HRN.out _) ?_
  rintro e X4 ⟨rfl, hf4⟩
  have HF4 : Hid (Fresh W0 X4) := HF3.out.trans hf4 (fun _ _ e => e)
  clear hf4 HF3 HRN
  go_upto_region 5 with fail
  have u0 : ∀ q : Nw X4, q.w.cell? ⟨w.heap.size, 0, none⟩ = some (zV v) := fun q => (HBX.out q.w (HF4.out.trans q.f (fun _ _ e => e))).2.1
  have u1 : ∀ q : Nw X4, q.w.cell? ⟨w.heap.size, 1, none⟩ = some (zV c) := fun q => (HBX.out q.w (HF4.out.trans q.f (fun _ _ e => e))).2.2.1
  have u2 : ∀ q : Nw X4, q.w.cell? ⟨w.heap.size, 2, none⟩ = some (zV d) := fun q => (HBX.out q.w (HF4.out.trans q.f (fun _ _ e => e))).2.2.2.1
  have u3 : ∀ q : Nw X4, q.w.cell? ⟨w.heap.size, 3, none⟩ = some (zV h) := fun q => (HBX.out q.w (HF4.out.trans q.f (fun _ _ e => e))).2.2.2.2.1
  have u4 : ∀ q : Nw X4, q.w.cell? ⟨w.heap.size, 4, none⟩ = some (zV l) := fun q => (HBX.out q.w (HF4.out.trans q.f (fun _ _ e => e))).2.2.2.2.2.1
  have u5 : ∀ q : Nw X4, q.w.cell? ⟨w.heap.size, 5, none⟩ = some (zV n) := fun q => (HBX.out q.w (HF4.out.trans q.f (fun _ _ e => e))).2.2.2.2.2.2
  have HFW : Hid (∀ q : Nw X4, Fresh w q.w) := fun q => (HBX.out q.w (HF4.out.trans q.f (fun _ _ e => e))).1
  have K0 : Hid (∀ q : Nw X4, _) := fun q => HC.out q.w
  have K1 : Hid (∀ q : Nw X4, _) := fun q => HRC.out q.w
  have K2 : Hid (∀ q : Nw X4, _) := fun q => HP.out q.w
  have K3 : Hid (∀ q : Nw X4, _) := fun q => HH.out q.w
  have K4 : Hid (∀ q : Nw X4, _) := fun q => HRH.out q.w
  clear HC HRC HP HH HRH HF4 HBX
  haveI : Nonempty (Nw X4) := nw_some X4
  refine wp_region_new (by kernel_rfl) (by kernel_rfl) ?_
  repeat (go_big_quiet_step ((first | (with_reducible exact Calls.new_of (K0.out _)) | (with_reducible exact Calls.new_of (K1.out _)) | (with_reducible exact Calls.new_of (K2.out _)) | (with_reducible exact Calls.new_of (K3.out _)) | (with_reducible exact Calls.new_of (K4.out _)))))
  refine wpQuiet_nil ?_
  intro _ hw'
  obtain ⟨dq, hw''⟩ := hw'
  subst hw''
  go_wp2
  go_ret
  exact ⟨rfl, HFW.out dq⟩

set_option maxRecDepth 100000 in
theorem contract (H : Type) (enc : TypeId × Value → H) (W : World) (base : Nat) (args : Array Value) (ds gs : List (DataW H)) (before : List MemPlace)
    (hval : ∀ (j : Nat) t v, Tryd.f3.params[j]? = some t → args[j]? = some v → Value.okWide Tryd.prog W .any base t v)
    (hW : DataW.Whole enc Tryd.prog Tryd.f3.params.toList Rows.shapeChecksSpec.vars false W args.toList ds gs before) 
    (hsz : (DataW.weightsEach Tryd.prog (Tryd.f3.params.toList ++ []) (ds ++ gs)).all (· ≤ reachBytes) = true) (hL : laidMetH Tryd.prog Rows.shapeChecksRow.laid W) :
    Calls Tryd.prog 3 args W fun e W' => ∃ v, e = .returned v ∧ Rows.shapeChecksSpec.post enc Tryd.prog Tryd.f3 false true false false W args v W' := by
  have hW' := hW
  obtain ⟨p, q, hA0, hV, rfl, hfz, hnd⟩ := hW
  have hA : DataW.TrodAll enc Tryd.prog W 0 (fun _ => true) true Tryd.f3.params.toList args.toList ds p := hA0
  rw [Tryd.params3] at hA hval hsz
  obtain ⟨rfl, rfl⟩ := trodVars_none hV
  obtain ⟨v0, d0, rfl, rfl, h0⟩ := trodAll_one hA
  obtain ⟨s, rfl, _⟩ := shp_of (hval 0 23 v0 rfl rfl) h0
  refine (walk s W (sin_of_laid hL) (bend_of_laid hL)).mono fun e W' ⟨he, hk⟩ => ?_
  subst he
  exact ⟨_, rfl, post_law rfl (by kernel_rfl) (by kernel_rfl) hW' rfl hk⟩

set_option maxRecDepth 100000 in
theorem laid_met (os : Os) : laidMet Tryd.prog Rows.shapeChecksRow.laid ((layIn (World.holding Tryd.prog os ⟨#[], #[], []⟩)).forCall (fun _ _ => 0) ⟨#[], #[.agg #[.int .i64 0, .int .i64 0, .int .i64 0, .int .i64 0, .int .i64 0, .int .i64 0]], []⟩).memory :=
  laidMet_of_run' 8 (by kernel_rfl) (by kernel_rfl)
set_option maxRecDepth 100000 in
theorem reads (os : Os) {H : Type} (enc : TypeId × Value → H) : ∃ places, DataW.whole enc Tryd.prog ((layIn (World.holding Tryd.prog os ⟨#[], #[], []⟩)).forCall (fun _ _ => 0) ⟨#[], #[.agg #[.int .i64 0, .int .i64 0, .int .i64 0, .int .i64 0, .int .i64 0, .int .i64 0]], []⟩).memory Tryd.f3.params.toList Rows.shapeChecksSpec.vars false (#[.agg #[.int .i64 0, .int .i64 0, .int .i64 0, .int .i64 0, .int .i64 0, .int .i64 0]] : Array Value).toList 8 = some ([.agg [.lit (.int .i64 0), .lit (.int .i64 0), .lit (.int .i64 0), .lit (.int .i64 0), .lit (.int .i64 0), .lit (.int .i64 0)]], [], places) :=
  ⟨[], by kernel_rfl⟩

set_option maxRecDepth 100000 in
theorem lifted (os : Os) (started : os.Started) (H : Type) (enc : TypeId × Value → H) (F : Stop.Interp) :
    ReturnsInHanded {} Tryd.checked os 3 .any ((OpenSpec.ofChange Rows.shapeChecksSpec).preRow enc Tryd.prog Tryd.f3 Rows.shapeChecksRow.domain false Rows.shapeChecksRow.laid) (((OpenSpec.ofChange Rows.shapeChecksSpec).at F).post enc Tryd.prog Tryd.f3 false true false false) := by
  obtain ⟨places, hx⟩ := reads os enc
  refine returnsInHanded_of_row (C := Tryd.checked) (s := OpenSpec.ofChange Rows.shapeChecksSpec) Tryd.own started (by kernel_rfl) Tryd.func3
    (witness_row_at (enc := enc) (C := Tryd.checked) false (layIn (World.holding Tryd.prog os ⟨#[], #[], []⟩)) #[.agg #[.int .i64 0, .int .i64 0, .int .i64 0, .int .i64 0, .int .i64 0, .int .i64 0]] rfl (by kernel_rfl) (by kernel_rfl) (by kernel_rfl)
      (OpenSpec.preRow_of_cond 8 hx (by kernel_rfl) (fun k hk => by cases hk) (by kernel_rfl) (laid_met os))) ?_
  intro W base args ds gs before hval hW _ hc hsz hL _ _
  exact contract H enc W base args ds gs before hval hW hsz hL

theorem said : Rows.ShapeChecksSaid :=
  OpenClaim.holds_of_cond 3 Tryd.f3 rfl rfl rfl rfl rfl rfl rfl ⟨rfl, rfl, rfl, rfl, rfl⟩ rfl rfl rfl rfl rfl (by kernel_rfl) Tryd.func3 (by kernel_rfl)
    (of_decide_eq_true (by kernel_rfl)) (by unfold Func.isWrapper; first | (rw [if_pos (by decide +kernel)]; kernel_rfl) | (rw [if_neg (by decide +kernel)]; exact ⟨rfl, rfl⟩))
    (fun os started H enc _ F => by rw [OpenClaim.pre_eq_preRow]; exact lifted os started H enc F)

theorem plain (f : FuncId) (fn : Func) (hf : Tryd.pinned.checked.prog.funcNamed Rows.shapeChecksRow.func = some f) (hfn : Tryd.pinned.checked.prog.funcs[f]? = some fn) :
    false = Tryd.pinned.checked.prog.looks [] ∧ ∀ (j : Nat) t, fn.params[j]? = some t → Tryd.pinned.checked.prog.wantsStandIn t = false := by
  obtain rfl : f = 3 := Option.some.inj ((show Tryd.prog.funcNamed Rows.shapeChecksRow.func = some 3 by kernel_rfl).symm.trans hf) |>.symm
  obtain rfl : fn = Tryd.f3 := (Option.some.inj (Tryd.func3.symm.trans hfn)).symm
  refine ⟨by kernel_rfl, fun j t ht => ?_⟩
  have hall : (Tryd.f3.params.toList.all fun u => !Tryd.prog.wantsStandIn u) = true := by kernel_rfl
  exact (show Tryd.prog.wantsStandIn t = false by simpa using List.all_eq_true.1 hall t (Array.mem_toList_iff.2 (Array.mem_of_getElem? ht)))

theorem card : Rows.ShapeChecksCardSaid :=
  Claim7.holds_tied_plain_at .later [] _ _ _ _ said (fun _ h => by cases h) (by kernel_rfl) (fun _ h => by cases h) shapeChecks_row_tie rfl ⟨rfl, rfl⟩ (by kernel_rfl) rfl plain (by kernel_rfl)

end Go.Proofs.YtakiimjldccgcaaDoor.ShChecks
namespace Go.Proofs.YtakiimjldccgcaaDoor
theorem shapeChecks_card : Rows.ShapeChecksCardSaid := ShChecks.card
end Go.Proofs.YtakiimjldccgcaaDoor
