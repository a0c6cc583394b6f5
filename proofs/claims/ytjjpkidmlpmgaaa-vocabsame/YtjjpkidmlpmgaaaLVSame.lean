/-
  For every two vocabularies the statement VocabSame answers true: Same tells what the document's does, of one and itself true, and of two in either order alike; awake does.
-/
import Derived.Test.YtjjpkidmlpmgaaaVpa
import Derived.Test.YtjjpkidmlpmgaaaVpg
import Derived.Test.YtjjpkidmlpmgaaaVov
import Derived.Deep.RegionHeldLaw
namespace Go.Proofs.Ytjjpkidmlpmgaaa.VSame
open Go.ChangeShapes Go.WideShapes Go.ChangeAt Go.RowKit Go.Lib Go.Maps

set_option maxHeartbeats 2000000 in
set_option maxRecDepth 100000 in
theorem walk {p q : Nat → Prop} (w : World) (tv mv tv' mv' : Value) (T T' : List (List UInt8)) (M M' : List Mg) (hT : TxR p w tv T) (hM : MgR p w mv M) (hT' : TxR q w tv' T') (hM' : MgR q w mv' M') (hM24 : M.length * 24 ≤ 140737488351232) (hM24' : M'.length * 24 ≤ 140737488351232) :
    Calls Try.prog 6 #[.agg #[tv, mv], .agg #[tv', mv']] w fun e w' => e = .returned (.bool true) ∧ Fresh w w' := by
  have hF1 : Fresh w ((w.alloc (.cells #[tv, mv] 25)).alloc (.cells #[tv', mv'] 25)) := ((Kept.refl _ w).alloc _).alloc _
  have s1 : (w.alloc (.cells #[tv, mv] 25)).heap.size = w.heap.size + 1 := by rw [World.size_alloc]
  have h0 : ((w.alloc (.cells #[tv, mv] 25)).alloc (.cells #[tv', mv'] 25)).heap[w.heap.size]? = some (.cells #[tv, mv] 25 (0, 0)) := by rw [Below.heap_alloc _ _ _ (by omega)]; exact heap_alloc_new _ _
  have h1 : ((w.alloc (.cells #[tv, mv] 25)).alloc (.cells #[tv', mv'] 25)).heap[w.heap.size + 1]? = some (.cells #[tv', mv'] 25 (0, 0)) := by rw [← s1]; exact heap_alloc_new _ _
  have HB : Hid (∀ W, Fresh ((w.alloc (.cells #[tv, mv] 25)).alloc (.cells #[tv', mv'] 25)) W → W.cell? ⟨w.heap.size, 0, none⟩ = some tv ∧ W.cell? ⟨w.heap.size, 1, none⟩ = some mv ∧ W.cell? ⟨w.heap.size + 1, 0, none⟩ = some tv' ∧ W.cell? ⟨w.heap.size + 1, 1, none⟩ = some mv') := fun W hk => by
    have hb0 := hk.at h0 (fun e => e)
    have hb1 := hk.at h1 (fun e => e)
    exact ⟨Lib.cell_of_heap hb0 0, Lib.cell_of_heap hb0 1, Lib.cell_of_heap hb1 0, Lib.cell_of_heap hb1 1⟩
  generalize hW1 : (w.alloc (.cells #[tv, mv] 25)).alloc (.cells #[tv', mv'] 25) = W1 at *
  have HA : Hid (∀ W, Calls Try.prog 12 #[] W fun e w' => e = .returned (.bool true) ∧ Fresh W w') := fun W => awake_any W
  have HS1 : Hid (∀ W, Fresh W1 W → Calls Try.prog 19 #[.agg #[tv, mv], .agg #[tv', mv']] W fun e w' => e = .returned (.bool (smB T T' M M')) ∧ Fresh W w') := fun W hk => by
    have hk' : Fresh w W := hF1.trans hk (fun _ _ e => e)
    exact Same_any W tv mv tv' mv' T T' M M' (hT.fresh hk') (hM.fresh hk') (hT'.fresh hk') (hM'.fresh hk') hM24
  have HS2 : Hid (∀ W, Fresh W1 W → Calls Try.prog 19 #[.agg #[tv, mv], .agg #[tv, mv]] W fun e w' => e = .returned (.bool true) ∧ Fresh W w') := fun W hk => by
    have hk' : Fresh w W := hF1.trans hk (fun _ _ e => e)
    have := Same_any W tv mv tv mv T T M M (hT.fresh hk') (hM.fresh hk') (hT.fresh hk') (hM.fresh hk') hM24
    rwa [smB_refl] at this
  have HS3 : Hid (∀ W, Fresh W1 W → Calls Try.prog 19 #[.agg #[tv', mv'], .agg #[tv, mv]] W fun e w' => e = .returned (.bool (smB T T' M M')) ∧ Fresh W w') := fun W hk => by
    have hk' : Fresh w W := hF1.trans hk (fun _ _ e => e)
    have := Same_any W tv' mv' tv mv T' T M' M (hT'.fresh hk') (hM'.fresh hk') (hT.fresh hk') (hM.fresh hk') hM24'
    rwa [smB_symm] at this
  have HG1 : Hid (∀ W, Fresh W1 W → Calls Try.prog 9 #[.agg #[tv, mv]] W fun e w' => ∃ tn mn, e = .returned (.agg #[tn, mn]) ∧ Hid (TxR (fun _ => True) w' tn T ∧ MgR (fun _ => True) w' mn M) ∧ Fresh W w') := fun W hk => by
    have hk' : Fresh w W := hF1.trans hk (fun _ _ e => e)
    exact (given_any W tv mv T M (hT.fresh hk') (hM.fresh hk') hM24).mono fun e w' ⟨tn, mn, h1, h2, h3, h4⟩ => ⟨tn, mn, h1, ⟨h2.mono (fun _ _ => trivial), h3.mono (fun _ _ => trivial)⟩, h4⟩
  have HG2 : Hid (∀ W tn mn, Fresh W1 W → Hid (TxR (fun _ => True) W tn T ∧ MgR (fun _ => True) W mn M) → Calls Try.prog 9 #[.agg #[tv', mv']] W fun e w' => ∃ tn' mn', e = .returned (.agg #[tn', mn']) ∧ Hid (TxR (fun _ => True) w' tn T ∧ MgR (fun _ => True) w' mn M ∧ TxR (fun _ => True) w' tn' T' ∧ MgR (fun _ => True) w' mn' M') ∧ Fresh W w') := fun W tn mn hk ⟨g1, g2⟩ => by
    have hk' : Fresh w W := hF1.trans hk (fun _ _ e => e)
    exact (given_any W tv' mv' T' M' (hT'.fresh hk') (hM'.fresh hk') hM24').mono fun e w' ⟨tn', mn', h1, h2, h3, h4⟩ => ⟨tn', mn', h1, ⟨g1.fresh h4, g2.fresh h4, h2.mono (fun _ _ => trivial), h3.mono (fun _ _ => trivial)⟩, h4⟩
  have HR : Hid (∀ W tn mn tn' mn', Hid (TxR (fun _ => True) W tn T ∧ MgR (fun _ => True) W mn M ∧ TxR (fun _ => True) W tn' T' ∧ MgR (fun _ => True) W mn' M') → Calls Try.prog 13 #[.agg #[tn, mn], .agg #[tn', mn']] W fun e w' => e = .returned (.bool (smB T T' M M')) ∧ Fresh W w') := fun W tn mn tn' mn' ⟨g1, g2, g3, g4⟩ => refSame_any W tn mn tn' mn' T T' M M' g1 g2 g3 g4 hM24
  have HF1 : Hid _ := hF1
  obtain ⟨ta, tc, rfl⟩ := hT.shape
  obtain ⟨ma, mc, rfl⟩ := hM.shape
  obtain ⟨ta', tc', rfl⟩ := hT'.shape
  obtain ⟨ma', mc', rfl⟩ := hM'.shape
  clear hT hT' hM hM' hF1 h0 h1 s1 hM24 hM24'
  generalize T.length = n1 at *
  generalize T'.length = n2 at *
  generalize M.length = n3 at *
  generalize M'.length = n4 at *
  generalize smB T T' M M' = bb at *
  obtain ⟨x0, x1, x2, x3⟩ := HB.out W1 (Kept.refl _ _)
  have f0 : Fresh W1 W1.drew := (Kept.refl _ W1).drew
  have hS0 := HB.out W1.drew f0
  cases bb with
  | false =>
    go_enter Try.func6, Try.ntmps6
    go_wp2_with fail
    clear hW1 x0 x1 x2 x3
    go_region_held_law (fun X => X.cell? ⟨w.heap.size, 0, none⟩ = some (.slice ta n1 tc) ∧ X.cell? ⟨w.heap.size, 1, none⟩ = some (.slice ma n3 mc) ∧ X.cell? ⟨w.heap.size + 1, 0, none⟩ = some (.slice ta' n2 tc') ∧ X.cell? ⟨w.heap.size + 1, 1, none⟩ = some (.slice ma' n4 mc')) (first | exact hS8 | exact hS7 | exact hS6 | exact hS5 | exact hS4 | exact hS3 | exact hS2 | exact hS1 | exact hS0) (first | (go_at_call 12; (with_reducible refine (HA.out _).mono ?_); rintro e w1 ⟨rfl, hq1⟩; have f1 : Fresh W1 w1 := f0.trans hq1 (fun _ _ e => e); have hS1 := HB.out w1 f1) | (go_at_call 9; (with_reducible refine (HG1.out _ f2).mono ?_); rintro e w3 ⟨tna, mna, rfl, hga, hq3⟩; have f3 : Fresh W1 w3 := f2.trans hq3 (fun _ _ e => e); have hS3 := HB.out w3 f3) | (go_at_call 9; (with_reducible refine (HG2.out _ _ _ f3 hga).mono ?_); rintro e w4 ⟨tnb, mnb, rfl, hgb, hq4⟩; have f4 : Fresh W1 w4 := f3.trans hq4 (fun _ _ e => e); have hS4 := HB.out w4 f4) | (go_at_call 13; (with_reducible refine (HR.out _ _ _ _ _ hgb).mono ?_); rintro e w5 ⟨rfl, hq5⟩; have f5 : Fresh W1 w5 := f4.trans hq5 (fun _ _ e => e); have hS5 := HB.out w5 f5) | (go_at_call 19; (with_reducible refine (HS2.out _ f5).mono ?_); rintro e w6 ⟨rfl, hq6⟩; have f6 : Fresh W1 w6 := f5.trans hq6 (fun _ _ e => e); have hS6 := HB.out w6 f6) | (go_at_call 19; (with_reducible refine (HS3.out _ f6).mono ?_); rintro e w7 ⟨rfl, hq7⟩; have f7 : Fresh W1 w7 := f6.trans hq7 (fun _ _ e => e); have hS7 := HB.out w7 f7) | (go_at_call 19; (with_reducible refine (HS1.out _ f7).mono ?_); rintro e w8 ⟨rfl, hq8⟩; have f8 : Fresh W1 w8 := f7.trans hq8 (fun _ _ e => e); have hS8 := HB.out w8 f8) | (go_at_call 19; (with_reducible refine (HS1.out _ f1).mono ?_); rintro e w2 ⟨rfl, hq2⟩; have f2 : Fresh W1 w2 := f1.trans hq2 (fun _ _ e => e); have hS2 := HB.out w2 f2))
    all_goals
      go_wp2
      go_ret
      exact ⟨rfl, HF1.out.trans f8 (fun _ _ e => e)⟩
  | true =>
    go_enter Try.func6, Try.ntmps6
    go_wp2_with fail
    clear hW1 x0 x1 x2 x3
    go_region_held_law (fun X => X.cell? ⟨w.heap.size, 0, none⟩ = some (.slice ta n1 tc) ∧ X.cell? ⟨w.heap.size, 1, none⟩ = some (.slice ma n3 mc) ∧ X.cell? ⟨w.heap.size + 1, 0, none⟩ = some (.slice ta' n2 tc') ∧ X.cell? ⟨w.heap.size + 1, 1, none⟩ = some (.slice ma' n4 mc')) (first | exact hS8 | exact hS7 | exact hS6 | exact hS5 | exact hS4 | exact hS3 | exact hS2 | exact hS1 | exact hS0) (first | (go_at_call 12; (with_reducible refine (HA.out _).mono ?_); rintro e w1 ⟨rfl, hq1⟩; have f1 : Fresh W1 w1 := f0.trans hq1 (fun _ _ e => e); have hS1 := HB.out w1 f1) | (go_at_call 9; (with_reducible refine (HG1.out _ f2).mono ?_); rintro e w3 ⟨tna, mna, rfl, hga, hq3⟩; have f3 : Fresh W1 w3 := f2.trans hq3 (fun _ _ e => e); have hS3 := HB.out w3 f3) | (go_at_call 9; (with_reducible refine (HG2.out _ _ _ f3 hga).mono ?_); rintro e w4 ⟨tnb, mnb, rfl, hgb, hq4⟩; have f4 : Fresh W1 w4 := f3.trans hq4 (fun _ _ e => e); have hS4 := HB.out w4 f4) | (go_at_call 13; (with_reducible refine (HR.out _ _ _ _ _ hgb).mono ?_); rintro e w5 ⟨rfl, hq5⟩; have f5 : Fresh W1 w5 := f4.trans hq5 (fun _ _ e => e); have hS5 := HB.out w5 f5) | (go_at_call 19; (with_reducible refine (HS2.out _ f5).mono ?_); rintro e w6 ⟨rfl, hq6⟩; have f6 : Fresh W1 w6 := f5.trans hq6 (fun _ _ e => e); have hS6 := HB.out w6 f6) | (go_at_call 19; (with_reducible refine (HS3.out _ f6).mono ?_); rintro e w7 ⟨rfl, hq7⟩; have f7 : Fresh W1 w7 := f6.trans hq7 (fun _ _ e => e); have hS7 := HB.out w7 f7) | (go_at_call 19; (with_reducible refine (HS1.out _ f7).mono ?_); rintro e w8 ⟨rfl, hq8⟩; have f8 : Fresh W1 w8 := f7.trans hq8 (fun _ _ e => e); have hS8 := HB.out w8 f8) | (go_at_call 19; (with_reducible refine (HS1.out _ f1).mono ?_); rintro e w2 ⟨rfl, hq2⟩; have f2 : Fresh W1 w2 := f1.trans hq2 (fun _ _ e => e); have hS2 := HB.out w2 f2))
    all_goals
      go_wp2
      go_ret
      exact ⟨rfl, HF1.out.trans f8 (fun _ _ e => e)⟩

set_option maxRecDepth 100000 in
theorem contract (H : Type) (enc : TypeId × Value → H) (W : World) (base : Nat) (args : Array Value) (ds gs : List (DataW H)) (before : List MemPlace)
    (hval : ∀ (j : Nat) t v, Try.f6.params[j]? = some t → args[j]? = some v → Value.okWide Try.prog W .any base t v)
    (hW : DataW.Whole enc Try.prog Try.f6.params.toList Rows.vocabSameSpec.vars false W args.toList ds gs before) 
    (hsz : (DataW.weightsEach Try.prog (Try.f6.params.toList ++ []) (ds ++ gs)).all (· ≤ reachBytes) = true) (hL : laidMetH Try.prog Rows.vocabSameRow.laid W) :
    Calls Try.prog 6 args W fun e W' => ∃ v, e = .returned v ∧ Rows.vocabSameSpec.post enc Try.prog Try.f6 false true false false W args v W' := by
  have hW' := hW
  obtain ⟨p, q, hA0, hV, rfl, hfz, hnd⟩ := hW
  have hA : DataW.TrodAll enc Try.prog W 0 (fun _ => true) true Try.f6.params.toList args.toList ds p := hA0
  rw [Try.params6] at hA hval hsz
  obtain ⟨rfl, rfl⟩ := trodVars_none hV
  have _hL := hL
  obtain ⟨v0, v1, d0, d1, p0, p1, rfl, rfl, rfl, h0, h1⟩ := trodAll_two hA
  obtain ⟨tv, mv, T, M, rfl, hT, hM, hM24⟩ := voc_of (hval 0 25 v0 rfl rfl) h0 hsz (j := 0) rfl rfl
  obtain ⟨tv', mv', T', M', rfl, hT', hM', hM24'⟩ := voc_of (hval 1 25 v1 rfl rfl) h1 hsz (j := 1) rfl rfl
  refine (walk W tv mv tv' mv' T T' M M' hT hM hT' hM' hM24 hM24').mono fun e W' ⟨he, hk⟩ => ?_
  subst he
  exact ⟨_, rfl, post_law rfl (by kernel_rfl) (by kernel_rfl) hW' rfl hk⟩

set_option maxRecDepth 100000 in
theorem laid_met (os : Os) : laidMet Try.prog Rows.vocabSameRow.laid ((layIn (World.holding Try.prog os ⟨#[], #[], []⟩)).forCall (fun _ _ => 0) ⟨#[], #[.agg #[.slice none 0 0, .slice none 0 0], .agg #[.slice none 0 0, .slice none 0 0]], []⟩).memory :=
  laidMet_of_run' 8 (by kernel_rfl) (by kernel_rfl)
set_option maxRecDepth 100000 in
theorem reads (os : Os) {H : Type} (enc : TypeId × Value → H) : ∃ places, DataW.whole enc Try.prog ((layIn (World.holding Try.prog os ⟨#[], #[], []⟩)).forCall (fun _ _ => 0) ⟨#[], #[.agg #[.slice none 0 0, .slice none 0 0], .agg #[.slice none 0 0, .slice none 0 0]], []⟩).memory Try.f6.params.toList Rows.vocabSameSpec.vars false (#[.agg #[.slice none 0 0, .slice none 0 0], .agg #[.slice none 0 0, .slice none 0 0]] : Array Value).toList 8 = some ([.agg [.nil, .nil], .agg [.nil, .nil]], [], places) :=
  ⟨[], by kernel_rfl⟩

set_option maxRecDepth 100000 in
theorem lifted (os : Os) (started : os.Started) (H : Type) (enc : TypeId × Value → H) (F : Stop.Interp) :
    ReturnsInHanded {} Try.checked os 6 .any ((OpenSpec.ofChange Rows.vocabSameSpec).preRow enc Try.prog Try.f6 Rows.vocabSameRow.domain false Rows.vocabSameRow.laid) (((OpenSpec.ofChange Rows.vocabSameSpec).at F).post enc Try.prog Try.f6 false true false false) := by
  obtain ⟨places, hx⟩ := reads os enc
  refine returnsInHanded_of_row (C := Try.checked) (s := OpenSpec.ofChange Rows.vocabSameSpec) Try.own started (by kernel_rfl) Try.func6
    (witness_row_at (enc := enc) (C := Try.checked) false (layIn (World.holding Try.prog os ⟨#[], #[], []⟩)) #[.agg #[.slice none 0 0, .slice none 0 0], .agg #[.slice none 0 0, .slice none 0 0]] rfl (by kernel_rfl) (by kernel_rfl) (by kernel_rfl)
      (OpenSpec.preRow_of_cond 8 hx (by kernel_rfl) (fun k hk => by cases hk) (by kernel_rfl) (laid_met os))) ?_
  intro W base args ds gs before hval hW _ hc hsz hL _ _
  exact contract H enc W base args ds gs before hval hW hsz hL

theorem said : Rows.VocabSameSaid :=
  OpenClaim.holds_of_cond 6 Try.f6 rfl rfl rfl rfl rfl rfl rfl ⟨rfl, rfl, rfl, rfl, rfl⟩ rfl rfl rfl rfl rfl (by kernel_rfl) Try.func6 (by kernel_rfl)
    (of_decide_eq_true (by kernel_rfl)) (by unfold Func.isWrapper; first | (rw [if_pos (by decide +kernel)]; kernel_rfl) | (rw [if_neg (by decide +kernel)]; exact ⟨rfl, rfl⟩))
    (fun os started H enc _ F => by rw [OpenClaim.pre_eq_preRow]; exact lifted os started H enc F)


end Go.Proofs.Ytjjpkidmlpmgaaa.VSame
namespace Go.Proofs.Ytjjpkidmlpmgaaa
theorem vocabSame_holds : Rows.VocabSameSaid := VSame.said
end Go.Proofs.Ytjjpkidmlpmgaaa
