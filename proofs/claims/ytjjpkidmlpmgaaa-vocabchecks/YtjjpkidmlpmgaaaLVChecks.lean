/-
  For every vocabulary the statement VocabChecks answers true: both tell the same of it; awake does; it is as it was.
-/
import Derived.Test.YtjjpkidmlpmgaaaVpa
import Derived.Test.YtjjpkidmlpmgaaaVoz
import Derived.Test.YtjjpkidmlpmgaaaVpd
namespace Go.Proofs.Ytjjpkidmlpmgaaa.VChecks
open Go.ChangeShapes Go.WideShapes Go.ChangeAt Go.RowKit Go.Lib Go.Maps

set_option maxHeartbeats 1000000 in
set_option maxRecDepth 100000 in
theorem walk {p : Nat → Prop} (w : World) (tv mv : Value) (T : List (List UInt8)) (M : List Mg) (hT : TxR p w tv T) (hM : MgR p w mv M) (hM24 : M.length * 24 ≤ 140737488351232) :
    Calls Try.prog 3 #[.agg #[tv, mv]] w fun e w' => e = .returned (.bool true) ∧ Fresh w w' := by
  have hF1 : Fresh w (w.alloc (.cells #[tv, mv] 25)) := (Kept.refl _ w).alloc _
  have HB : Hid (∀ W, Fresh (w.alloc (.cells #[tv, mv] 25)) W → W.cell? ⟨w.heap.size, 0, none⟩ = some tv ∧ W.cell? ⟨w.heap.size, 1, none⟩ = some mv) := fun W hk => by
    have hb2 := hk.at (heap_alloc_new w (.cells #[tv, mv] 25)) (fun e => e)
    exact ⟨Lib.cell_of_heap hb2 0, Lib.cell_of_heap hb2 1⟩
  have HG : Hid (∀ W, Fresh w W → Calls Try.prog 9 #[.agg #[tv, mv]] W fun e w' => ∃ tn mn, e = .returned (.agg #[tn, mn]) ∧ TxR (fun b => W.heap.size ≤ b ∧ b < w'.heap.size) w' tn T ∧ MgR (fun b => W.heap.size ≤ b ∧ b < w'.heap.size) w' mn M ∧ Fresh W w') := fun W hk => given_any W tv mv T M (hT.fresh hk) (hM.fresh hk) hM24
  have HC : Hid (∀ W, Fresh w W → Calls Try.prog 10 #[.agg #[tv, mv]] W fun e X' => e = .returned (.tuple #[zV (chP T M), zV (chE T M)]) ∧ Fresh W X') := fun W hk => check_any W tv mv T M (hT.fresh hk) (hM.fresh hk)
  have HRC : Hid (∀ (W : World) p' tn' mn', TxR p' W tn' T → MgR p' W mn' M → Calls Try.prog 11 #[.agg #[tn', mn']] W fun e X' => e = .returned (.tuple #[zV (chP T M), zV (chE T M)]) ∧ Fresh W X') := fun W p' tn' mn' h1 h2 => refCheck_any W tn' mn' T M h1 h2
  have HSm : Hid (∀ (W : World) p' q' tn' mn' tn2 mn2, TxR p' W tn' T → MgR p' W mn' M → TxR q' W tn2 T → MgR q' W mn2 M → Calls Try.prog 13 #[.agg #[tn', mn'], .agg #[tn2, mn2]] W fun e w' => e = .returned (.bool true) ∧ Fresh W w') := fun W p' q' tn' mn' tn2 mn2 h1 h2 h3 h4 => refSame_same W tn' mn' tn2 mn2 T M h1 h2 h3 h4 hM24
  obtain ⟨ta, tc, rfl⟩ := hT.shape
  obtain ⟨ma, mc, rfl⟩ := hM.shape
  have HF1 : Hid (Fresh w (w.alloc (.cells #[.slice ta T.length tc, .slice ma M.length mc] 25))) := hF1
  clear hT hM hF1
  generalize chP T M = P at *
  generalize chE T M = E at *
  generalize hTl : T.length = tn at *
  generalize hMl : M.length = mn at *
  generalize hW1 : w.alloc (.cells #[.slice ta tn tc, .slice ma mn mc] 25) = W1 at *
  obtain ⟨x0, x1⟩ := HB.out W1 (Kept.refl _ _)
  have HC0 := show Hid _ from HG.out W1 HF1.out
  go_enter Try.func3, Try.ntmps3
  go_wp2_with fail
  refine Calls.mono HC0.out ?_
  rintro e W2 ⟨tn', mn', rfl, hT2, hM2, hF2⟩
  obtain ⟨ta2, tc2, rfl⟩ := hT2.shape
  obtain ⟨ma2, mc2, rfl⟩ := hM2.shape
  have hk3 : Fresh W2 (W2.alloc (.cells #[.slice ta2 T.length tc2, .slice ma2 M.length mc2] 28)) := (Kept.refl _ W2).alloc _
  have HF3 : Hid (Fresh W1 (W2.alloc (.cells #[.slice ta2 T.length tc2, .slice ma2 M.length mc2] 28))) := hF2.trans hk3 (fun _ _ e => e)
  have HT3 : Hid (∀ W, Fresh (W2.alloc (.cells #[.slice ta2 T.length tc2, .slice ma2 M.length mc2] 28)) W → TxR (fun _ => True) W (.slice ta2 T.length tc2) T ∧ MgR (fun _ => True) W (.slice ma2 M.length mc2) M ∧ W.cell? ⟨W2.heap.size, 0, none⟩ = some (.slice ta2 T.length tc2) ∧ W.cell? ⟨W2.heap.size, 1, none⟩ = some (.slice ma2 M.length mc2)) := fun W hk => by
    have hb2 := hk.at (heap_alloc_new W2 (.cells #[.slice ta2 T.length tc2, .slice ma2 M.length mc2] 28)) (fun e => e)
    exact ⟨((hT2.fresh hk3).fresh hk).mono (fun _ _ => trivial), ((hM2.fresh hk3).fresh hk).mono (fun _ _ => trivial), Lib.cell_of_heap hb2 0, Lib.cell_of_heap hb2 1⟩
  rw [hTl, hMl] at HF3 HT3
  rw [hTl, hMl]
  clear HC0 hT2 hM2 hF2 hk3 x0 x1
  generalize hW3 : W2.alloc (.cells #[.slice ta2 tn tc2, .slice ma2 mn mc2] 28) = W3 at *
  generalize hz2 : W2.heap.size = z2 at *
  obtain ⟨x0, x1⟩ := HB.out W3 HF3.out
  have HC1 := show Hid _ from HC.out W3 (HF1.out.trans HF3.out (fun _ _ e => e))
  clear HC
  go_wp2_with fail
  refine Calls.mono HC1.out ?_
  rintro e W4 ⟨rfl, hF4⟩
  have HF4 : Hid (Fresh W3 W4) := hF4
  obtain ⟨hT4, hM4, y0, y1⟩ := HT3.out W4 hF4
  have HC2 := show Hid _ from HRC.out W4 _ _ _ hT4 hM4
  clear HC1 hF4 hT4 hM4 hW3 x0 x1 HRC
  go_wp2_with fail
  refine Calls.mono HC2.out ?_
  rintro e W5 ⟨rfl, hF5⟩
  have HF5 : Hid (Fresh W3 W5) := HF4.out.trans hF5 (fun _ _ e => e)
  obtain ⟨_, _, y0, y1⟩ := HT3.out W5 HF5.out
  obtain ⟨x0, x1⟩ := HB.out W5 (HF3.out.trans HF5.out (fun _ _ e => e))
  have HC3 : Hid (∀ W, Calls Try.prog 12 #[] W fun e w' => e = .returned (.bool true) ∧ Fresh W w') := fun W => awake_any W
  clear HC2 hF5
  go_wp2_with fail
  go_region_held3 (fun X => X.cell? ⟨w.heap.size, 0, none⟩ = some (.slice ta tn tc) ∧ X.cell? ⟨w.heap.size, 1, none⟩ = some (.slice ma mn mc) ∧ X.cell? ⟨z2, 0, none⟩ = some (.slice ta2 tn tc2) ∧ X.cell? ⟨z2, 1, none⟩ = some (.slice ma2 mn mc2)) (first | exact ⟨x0, x1, y0, y1⟩ | exact ⟨a1, b1, c1, d1⟩ | exact ⟨a2, b2, c2, d2⟩ | exact ⟨a3, b3, c3, d3⟩) (first | (go_at_call 12; (with_reducible refine (HC3.out _).mono ?_); rintro e w1 ⟨rfl, hq1⟩; have hS1 : Fresh W3 w1 := HF5.out.drew.trans hq1 (fun _ _ e => e); obtain ⟨_, _, c1, d1⟩ := HT3.out w1 hS1; obtain ⟨a1, b1⟩ := HB.out w1 (HF3.out.trans hS1 (fun _ _ e => e))) | (go_at_call 9; (with_reducible refine (HG.out _ (HF1.out.trans (HF3.out.trans hS1 (fun _ _ e => e)) (fun _ _ e => e))).mono ?_); rintro e w2 ⟨tv5, mv5, rfl, hT5, hM5, hq2⟩; have hS2 : Fresh W3 w2 := hS1.trans hq2 (fun _ _ e => e); obtain ⟨_, _, c2, d2⟩ := HT3.out w2 hS2; obtain ⟨a2, b2⟩ := HB.out w2 (HF3.out.trans hS2 (fun _ _ e => e))) | (go_at_call 13; (with_reducible refine (HSm.out _ _ _ _ _ _ _ hT5 hM5 (HT3.out w2 hS2).1 (HT3.out w2 hS2).2.1).mono ?_); rintro e w3 ⟨rfl, hq3⟩; have hS3 : Fresh W3 w3 := hS2.trans hq3 (fun _ _ e => e); obtain ⟨_, _, c3, d3⟩ := HT3.out w3 hS3; obtain ⟨a3, b3⟩ := HB.out w3 (HF3.out.trans hS3 (fun _ _ e => e))))
  all_goals
    go_wp2
    go_ret
    exact ⟨rfl, HF1.out.trans (HF3.out.trans hS3 (fun _ _ e => e)) (fun _ _ e => e)⟩

set_option maxRecDepth 100000 in
theorem contract (H : Type) (enc : TypeId × Value → H) (W : World) (base : Nat) (args : Array Value) (ds gs : List (DataW H)) (before : List MemPlace)
    (hval : ∀ (j : Nat) t v, Try.f3.params[j]? = some t → args[j]? = some v → Value.okWide Try.prog W .any base t v)
    (hW : DataW.Whole enc Try.prog Try.f3.params.toList Rows.vocabChecksSpec.vars false W args.toList ds gs before) 
    (hsz : (DataW.weightsEach Try.prog (Try.f3.params.toList ++ []) (ds ++ gs)).all (· ≤ reachBytes) = true) (hL : laidMetH Try.prog Rows.vocabChecksRow.laid W) :
    Calls Try.prog 3 args W fun e W' => ∃ v, e = .returned v ∧ Rows.vocabChecksSpec.post enc Try.prog Try.f3 false true false false W args v W' := by
  have hW' := hW
  obtain ⟨p, q, hA0, hV, rfl, hfz, hnd⟩ := hW
  have hA : DataW.TrodAll enc Try.prog W 0 (fun _ => true) true Try.f3.params.toList args.toList ds p := hA0
  rw [Try.params3] at hA hval hsz
  obtain ⟨rfl, rfl⟩ := trodVars_none hV
  have _hL := hL
  obtain ⟨v0, d0, rfl, rfl, h0⟩ := trodAll_one hA
  obtain ⟨tv, mv, T, M, rfl, hT, hM, hM24⟩ := voc_of (hval 0 25 v0 rfl rfl) h0 hsz (j := 0) rfl rfl
  refine (walk W tv mv T M hT hM hM24).mono fun e W' ⟨he, hk⟩ => ?_
  subst he
  exact ⟨_, rfl, post_law rfl (by kernel_rfl) (by kernel_rfl) hW' rfl hk⟩

set_option maxRecDepth 100000 in
theorem laid_met (os : Os) : laidMet Try.prog Rows.vocabChecksRow.laid ((layIn (World.holding Try.prog os ⟨#[], #[], []⟩)).forCall (fun _ _ => 0) ⟨#[], #[.agg #[.slice none 0 0, .slice none 0 0]], []⟩).memory :=
  laidMet_of_run' 8 (by kernel_rfl) (by kernel_rfl)
set_option maxRecDepth 100000 in
theorem reads (os : Os) {H : Type} (enc : TypeId × Value → H) : ∃ places, DataW.whole enc Try.prog ((layIn (World.holding Try.prog os ⟨#[], #[], []⟩)).forCall (fun _ _ => 0) ⟨#[], #[.agg #[.slice none 0 0, .slice none 0 0]], []⟩).memory Try.f3.params.toList Rows.vocabChecksSpec.vars false (#[.agg #[.slice none 0 0, .slice none 0 0]] : Array Value).toList 8 = some ([.agg [.nil, .nil]], [], places) :=
  ⟨[], by kernel_rfl⟩

set_option maxRecDepth 100000 in
theorem lifted (os : Os) (started : os.Started) (H : Type) (enc : TypeId × Value → H) (F : Stop.Interp) :
    ReturnsInHanded {} Try.checked os 3 .any ((OpenSpec.ofChange Rows.vocabChecksSpec).preRow enc Try.prog Try.f3 Rows.vocabChecksRow.domain false Rows.vocabChecksRow.laid) (((OpenSpec.ofChange Rows.vocabChecksSpec).at F).post enc Try.prog Try.f3 false true false false) := by
  obtain ⟨places, hx⟩ := reads os enc
  refine returnsInHanded_of_row (C := Try.checked) (s := OpenSpec.ofChange Rows.vocabChecksSpec) Try.own started (by kernel_rfl) Try.func3
    (witness_row_at (enc := enc) (C := Try.checked) false (layIn (World.holding Try.prog os ⟨#[], #[], []⟩)) #[.agg #[.slice none 0 0, .slice none 0 0]] rfl (by kernel_rfl) (by kernel_rfl) (by kernel_rfl)
      (OpenSpec.preRow_of_cond 8 hx (by kernel_rfl) (fun k hk => by cases hk) (by kernel_rfl) (laid_met os))) ?_
  intro W base args ds gs before hval hW _ hc hsz hL _ _
  exact contract H enc W base args ds gs before hval hW hsz hL

theorem said : Rows.VocabChecksSaid :=
  OpenClaim.holds_of_cond 3 Try.f3 rfl rfl rfl rfl rfl rfl rfl ⟨rfl, rfl, rfl, rfl, rfl⟩ rfl rfl rfl rfl rfl (by kernel_rfl) Try.func3 (by kernel_rfl)
    (of_decide_eq_true (by kernel_rfl)) (by unfold Func.isWrapper; first | (rw [if_pos (by decide +kernel)]; kernel_rfl) | (rw [if_neg (by decide +kernel)]; exact ⟨rfl, rfl⟩))
    (fun os started H enc _ F => by rw [OpenClaim.pre_eq_preRow]; exact lifted os started H enc F)


end Go.Proofs.Ytjjpkidmlpmgaaa.VChecks
namespace Go.Proofs.Ytjjpkidmlpmgaaa
theorem vocabChecks_holds : Rows.VocabChecksSaid := VChecks.said
end Go.Proofs.Ytjjpkidmlpmgaaa
