/-
  For every guide, vocabulary and state the statement GuideMasks answers true: both tell the same tokens that may follow; awake does.
-/
import Derived.Test.YtdponkpgokncdaaGwj
import Derived.Test.YtdponkpgokncdaaVpa
import Derived.Deep.RegionHeld3
namespace Go.Proofs.Ytdponkpgokncdaa.GMasks
open Go.ChangeShapes Go.WideShapes Go.ChangeAt Go.RowKit Go.Lib Go.Maps

set_option maxHeartbeats 1000000 in
set_option maxRecDepth 100000 in
theorem walk {p q : Nat → Prop} (w : World) (an en tv mv : Value) (A : List Bool) (E : List Ed) (T : List (List UInt8)) (M : List Mg) (hA : RbL p w an A) (hE : EdR p w en E) (hT : TxR q w tv T) (hM : MgR q w mv M) (hM24 : M.length * 24 ≤ 140737488351232) (s : Int) :
    Calls Try.prog 5 #[.agg #[an, en], .agg #[tv, mv], zV s] w fun e w' => e = .returned (.bool true) ∧ Fresh w w' := by
  have HB := show Hid _ from box2 w #[an, en] #[tv, mv] 25 49
  have HGM : Hid (∀ X, Fresh w X → Calls Try.prog 20 #[.agg #[an, en], .agg #[tv, mv], zV s] X fun e w' => MkQ A E T M s X e w') := fun X hX => gmask_any A E T M an en tv mv X (hA.fresh hX) (hE.fresh hX) (hT.fresh hX) (hM.fresh hX) s
  have HGG : Hid (∀ X, Fresh w X → Calls Try.prog 9 #[.agg #[an, en]] X fun e w' => ∃ tn mn, e = .returned (.agg #[tn, mn]) ∧ RbL (fun b => X.heap.size ≤ b ∧ b < w'.heap.size) w' tn A ∧ EdR (fun b => X.heap.size ≤ b ∧ b < w'.heap.size) w' mn E ∧ Fresh X w') := fun X hX => givenG_any X an en A E (hA.fresh hX) (hE.fresh hX)
  have HGW : Hid (∀ X, Fresh w X → Calls Try.prog 22 #[.agg #[tv, mv]] X fun e w' => ∃ tn mn, e = .returned (.agg #[tn, mn]) ∧ TxR (fun b => X.heap.size ≤ b ∧ b < w'.heap.size) w' tn T ∧ MgR (fun b => X.heap.size ≤ b ∧ b < w'.heap.size) w' mn M ∧ Fresh X w') := fun X hX => given_any X tv mv T M (hT.fresh hX) (hM.fresh hX) hM24
  have HLE : Hid ((mkM A E T M s).length ≤ 140737488351232) := by
    show _ ≤ _
    unfold mkM
    split
    · rename_i h
      rw [msF_len, mkB_len]
      have := wrT_good (vcE_zero h.1).1
      omega
    · simp
  obtain ⟨ta, tc, rfl⟩ := hT.shape
  obtain ⟨ma, mc, rfl⟩ := hM.shape
  obtain ⟨ao, ac, rfl⟩ := hA.shape
  obtain ⟨eo, ec, rfl⟩ := hE.shape
  clear hA hE hT hM hM24
  go_enter Try.func5, Try.ntmps5
  go_upto_region 1 with fail
  have HK0 : Hid (Fresh ((w.alloc (.cells #[.slice ao A.length ac, .slice eo E.length ec] 25)).alloc (.cells #[.slice ta T.length tc, .slice ma M.length mc] 49)) ((w.alloc (.cells #[.slice ao A.length ac, .slice eo E.length ec] 25)).alloc (.cells #[.slice ta T.length tc, .slice ma M.length mc] 49))) := Kept.refl _ _
  generalize (w.alloc (.cells #[.slice ao A.length ac, .slice eo E.length ec] 25)).alloc (.cells #[.slice ta T.length tc, .slice ma M.length mc] 49) = W1 at *
  have HX : Hid (∀ X, Fresh W1 X → Fresh w X ∧ X.cell? ⟨w.heap.size, 0, none⟩ = some (.slice ao A.length ac) ∧ X.cell? ⟨w.heap.size, 1, none⟩ = some (.slice eo E.length ec) ∧ X.cell? ⟨w.heap.size + 1, 0, none⟩ = some (.slice ta T.length tc) ∧ X.cell? ⟨w.heap.size + 1, 1, none⟩ = some (.slice ma M.length mc)) := fun X hk => by
    obtain ⟨hf1, hb0, hb1⟩ := HB.out X hk
    exact ⟨hf1, by rw [Lib.cell_of_heap hb0]; rfl, by rw [Lib.cell_of_heap hb0]; rfl, by rw [Lib.cell_of_heap hb1]; rfl, by rw [Lib.cell_of_heap hb1]; rfl⟩
  clear HB
  obtain ⟨hf1, x0, x1, x2, x3⟩ := HX.out W1 HK0.out
  have HM1 := show Hid _ from HGM.out W1 hf1
  clear hf1 HGM
  unfold MkQ at HM1
  go_wp2_with fail
  refine Calls.mono HM1.out ?_
  rintro e W2 ⟨va, rfl, hown, hf2⟩
  have HF2 : Hid (Fresh W1 W2) := hf2
  obtain ⟨_, x0, x1, x2, x3⟩ := HX.out W2 hf2
  have HO2 : Hid (∀ X, Fresh W2 X → RbL (fun _ => True) X va (mkM A E T M s)) := fun X hX => ((rbl_of_own hown HLE.out).fresh hX).mono (fun _ _ => trivial)
  obtain ⟨vo, vc, hva⟩ := ownsRow_shape hown
  subst hva
  clear hf2 hown HM1 HK0
  go_upto_region 2 with fail
  have hS0 : (W2.cell? ⟨w.heap.size, 0, none⟩ = some (.slice ao A.length ac) ∧ W2.cell? ⟨w.heap.size, 1, none⟩ = some (.slice eo E.length ec) ∧ W2.cell? ⟨w.heap.size + 1, 0, none⟩ = some (.slice ta T.length tc) ∧ W2.cell? ⟨w.heap.size + 1, 1, none⟩ = some (.slice ma M.length mc)) ∧ Fresh W2 W2.drew := ⟨⟨x0, x1, x2, x3⟩, (Kept.refl _ _).drew⟩
  have HS : Hid (∀ X, Fresh W2 X → (X.cell? ⟨w.heap.size, 0, none⟩ = some (.slice ao A.length ac) ∧ X.cell? ⟨w.heap.size, 1, none⟩ = some (.slice eo E.length ec) ∧ X.cell? ⟨w.heap.size + 1, 0, none⟩ = some (.slice ta T.length tc) ∧ X.cell? ⟨w.heap.size + 1, 1, none⟩ = some (.slice ma M.length mc)) ∧ Fresh W2 X) := fun X hX => ⟨(HX.out X (HF2.out.trans hX (fun _ _ e => e))).2, hX⟩
  have HW : Hid (∀ X, Fresh W2 X → Fresh w X) := fun X hX => (HX.out X (HF2.out.trans hX (fun _ _ e => e))).1
  go_region_held3 (fun X => (X.cell? ⟨w.heap.size, 0, none⟩ = some (.slice ao A.length ac) ∧ X.cell? ⟨w.heap.size, 1, none⟩ = some (.slice eo E.length ec) ∧ X.cell? ⟨w.heap.size + 1, 0, none⟩ = some (.slice ta T.length tc) ∧ X.cell? ⟨w.heap.size + 1, 1, none⟩ = some (.slice ma M.length mc)) ∧ Fresh W2 X) (first | exact hS0 | exact hS' | assumption) (first | (go_at_call 9; have hFx : _ ∧ Fresh W2 _ := (by assumption); refine (HGG.out _ (HW.out _ hFx.2)).mono ?_; rintro r X3 ⟨tn, mn, rfl, hA1, hE1, hf3⟩; have hS' := HS.out X3 (hFx.2.trans hf3 (fun _ _ e => e))) | (go_at_call 22; have hFx : _ ∧ Fresh W2 _ := (by assumption); refine (HGW.out _ (HW.out _ hFx.2)).mono ?_; rintro r X4 ⟨tn4, mn4, rfl, hT1, hM1, hf4⟩; have hS' := HS.out X4 (hFx.2.trans hf4 (fun _ _ e => e))) | (go_at_call 21; have hFx : _ ∧ Fresh W2 _ := (by assumption); refine (rmask_any A E T M _ _ _ _ _ (hA1.fresh hf4) (hE1.fresh hf4) hT1 hM1 s).mono ?_; rintro r X5 ⟨vb, rfl, hown5, hf5⟩; have hS' := HS.out X5 (hFx.2.trans hf5 (fun _ _ e => e))))
  have HF5 : Hid (Fresh W2 X5) := hS'.2
  have HO5 : Hid (∀ X, Fresh X5 X → RbL (fun _ => True) X vb (mkM A E T M s)) := fun X hX => ((rbl_of_own hown5 HLE.out).fresh hX).mono (fun _ _ => trivial)
  obtain ⟨wo, wc, hvb⟩ := ownsRow_shape hown5
  subst hvb
  have HW5 : Hid (Fresh w X5) := HW.out X5 HF5.out
  clear hA1 hE1 hf3 hf4 hf5 hT1 hM1 hown5 x0 x1 x2 x3 HS HX HGG HGW HW
  clear hS0
  have HAW := show Hid _ from awakeG_any X5
  generalize mkE A E T M s = ce at *
  have hce : (ce == ce) = true := beq_self_eq_true _
  generalize mkM A E T M s = L at *
  go_wp2_with fail
  refine Calls.mono HAW.out ?_
  rintro e X6 ⟨rfl, hf6⟩
  have HF6 : Hid (Fresh X5 X6) := hf6
  have HTR := show Hid _ from truths_any L L _ _ X6 (HO2.out X6 (HF5.out.trans hf6 (fun _ _ e => e))) (HO5.out X6 hf6) rfl
  clear hf6 HAW
  go_wp2_with fail
  refine Calls.mono HTR.out ?_
  rintro e X7 ⟨rfl, hf7⟩
  have HF7 : Hid (Fresh w X7) := HW5.out.trans (HF6.out.trans hf7 (fun _ _ e => e)) (fun _ _ e => e)
  clear hf7 HTR
  go_wp2
  go_ret
  exact ⟨rfl, HF7.out⟩

set_option maxRecDepth 100000 in
theorem contract (H : Type) (enc : TypeId × Value → H) (W : World) (base : Nat) (args : Array Value) (ds gs : List (DataW H)) (before : List MemPlace)
    (hval : ∀ (j : Nat) t v, Try.f5.params[j]? = some t → args[j]? = some v → Value.okWide Try.prog W .any base t v)
    (hW : DataW.Whole enc Try.prog Try.f5.params.toList Rows.guideMasksSpec.vars false W args.toList ds gs before) 
    (hsz : (DataW.weightsEach Try.prog (Try.f5.params.toList ++ []) (ds ++ gs)).all (· ≤ reachBytes) = true) (hL : laidMetH Try.prog Rows.guideMasksRow.laid W) :
    Calls Try.prog 5 args W fun e W' => ∃ v, e = .returned v ∧ Rows.guideMasksSpec.post enc Try.prog Try.f5 false true false false W args v W' := by
  have hW' := hW
  obtain ⟨p, q, hA0, hV, rfl, hfz, hnd⟩ := hW
  have hA : DataW.TrodAll enc Try.prog W 0 (fun _ => true) true Try.f5.params.toList args.toList ds p := hA0
  rw [Try.params5] at hA hval hsz
  obtain ⟨rfl, rfl⟩ := trodVars_none hV
  have _hL := hL
  obtain ⟨v0, v1, v2, d0, d1, d2, p0, p1, p2, rfl, rfl, rfl, h0, h1, h2⟩ := trodAll_three hA
  obtain ⟨acv, edv, A, E, rfl, hA', hE'⟩ := guide_of (hval 0 25 v0 rfl rfl) h0 hsz (j := 0) rfl rfl
  obtain ⟨tv, mv, T, M, rfl, hT, hM, hM24⟩ := voc_of (hval 1 49 v1 rfl rfl) h1 hsz (j := 1) rfl rfl
  obtain ⟨x2, rfl, rfl, rfl, w2⟩ := open_int Try.underlying3 (hval 2 3 v2 rfl rfl) h2
  refine (walk W acv edv tv mv A E T M hA' hE' hT hM hM24 x2).mono fun e W' ⟨he, hk⟩ => ?_
  subst he
  exact ⟨_, rfl, post_law rfl (by kernel_rfl) (by kernel_rfl) hW' rfl hk⟩

set_option maxRecDepth 100000 in
theorem laid_met (os : Os) : laidMet Try.prog Rows.guideMasksRow.laid ((layIn (World.holding Try.prog os ⟨#[], #[], []⟩)).forCall (fun _ _ => 0) ⟨#[], #[.agg #[.slice none 0 0, .slice none 0 0], .agg #[.slice none 0 0, .slice none 0 0], .int .i64 0], []⟩).memory :=
  laidMet_of_run' 8 (by kernel_rfl) (by kernel_rfl)
set_option maxRecDepth 100000 in
theorem reads (os : Os) {H : Type} (enc : TypeId × Value → H) : ∃ places, DataW.whole enc Try.prog ((layIn (World.holding Try.prog os ⟨#[], #[], []⟩)).forCall (fun _ _ => 0) ⟨#[], #[.agg #[.slice none 0 0, .slice none 0 0], .agg #[.slice none 0 0, .slice none 0 0], .int .i64 0], []⟩).memory Try.f5.params.toList Rows.guideMasksSpec.vars false (#[.agg #[.slice none 0 0, .slice none 0 0], .agg #[.slice none 0 0, .slice none 0 0], .int .i64 0] : Array Value).toList 8 = some ([.agg [.nil, .nil], .agg [.nil, .nil], .lit (.int .i64 0)], [], places) :=
  ⟨[], by kernel_rfl⟩

set_option maxRecDepth 100000 in
theorem lifted (os : Os) (started : os.Started) (H : Type) (enc : TypeId × Value → H) (F : Stop.Interp) :
    ReturnsInHanded {} Try.checked os 5 .any ((OpenSpec.ofChange Rows.guideMasksSpec).preRow enc Try.prog Try.f5 Rows.guideMasksRow.domain false Rows.guideMasksRow.laid) (((OpenSpec.ofChange Rows.guideMasksSpec).at F).post enc Try.prog Try.f5 false true false false) := by
  obtain ⟨places, hx⟩ := reads os enc
  refine returnsInHanded_of_row (C := Try.checked) (s := OpenSpec.ofChange Rows.guideMasksSpec) Try.own started (by kernel_rfl) Try.func5
    (witness_row_at (enc := enc) (C := Try.checked) false (layIn (World.holding Try.prog os ⟨#[], #[], []⟩)) #[.agg #[.slice none 0 0, .slice none 0 0], .agg #[.slice none 0 0, .slice none 0 0], .int .i64 0] rfl (by kernel_rfl) (by kernel_rfl) (by kernel_rfl)
      (OpenSpec.preRow_of_cond 8 hx (by kernel_rfl) (fun k hk => by cases hk) (by kernel_rfl) (laid_met os))) ?_
  intro W base args ds gs before hval hW _ hc hsz hL _ _
  exact contract H enc W base args ds gs before hval hW hsz hL

theorem said : Rows.GuideMasksSaid :=
  OpenClaim.holds_of_cond 5 Try.f5 rfl rfl rfl rfl rfl rfl rfl ⟨rfl, rfl, rfl, rfl, rfl⟩ rfl rfl rfl rfl rfl (by kernel_rfl) Try.func5 (by kernel_rfl)
    (of_decide_eq_true (by kernel_rfl)) (by unfold Func.isWrapper; first | (rw [if_pos (by decide +kernel)]; kernel_rfl) | (rw [if_neg (by decide +kernel)]; exact ⟨rfl, rfl⟩))
    (fun os started H enc _ F => by rw [OpenClaim.pre_eq_preRow]; exact lifted os started H enc F)


end Go.Proofs.Ytdponkpgokncdaa.GMasks
namespace Go.Proofs.Ytdponkpgokncdaa
theorem guideMasks_holds : Rows.GuideMasksSaid := GMasks.said
end Go.Proofs.Ytdponkpgokncdaa
