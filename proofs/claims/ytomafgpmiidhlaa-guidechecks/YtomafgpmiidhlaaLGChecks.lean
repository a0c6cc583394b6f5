/-
  For every guide the statement GuideChecks answers true: both tell the same of it, and find the same states alive; awake does; the guide is as it was.
-/
import Derived.Test.YtomafgpmiidhlaaGux
namespace Go.Proofs.Ytomafgpmiidhlaa.GChecks
open Go.ChangeShapes Go.WideShapes Go.ChangeAt Go.RowKit Go.Lib Go.Maps

theorem ali_same {A : List Bool} {E : List Ed} (hE : ∀ i, i < E.length → EdOk (gE E i)) (h : chE A E = 0) : aliF A E = drL A E ∧ (aliF A E).length ≤ 64 := by
  obtain ⟨h1, _, h3, _⟩ := chE_zero h
  have h4 : aliF A E = drL A E := by
    unfold aliF
    rcases Nat.eq_zero_or_pos A.length with e | e
    · rw [if_neg (fun e2 => e2.2 e)]
      exact (List.eq_nil_of_length_eq_zero ((drL_len A E).trans e)).symm
    · rw [if_pos ⟨h, by omega⟩, drL_lv h3 hE, (mF_some (E := E) e).1, (mF_some (E := E) e).2]
  exact ⟨h4, by rw [h4, drL_len]; exact h1⟩
theorem ali_none {A : List Bool} {E : List Ed} (h : chE A E ≠ 0) : aliF A E = [] := if_neg (fun e => h e.1)
set_option maxHeartbeats 400000 in
set_option maxRecDepth 100000 in
theorem walk {p : Nat → Prop} (w : World) (acv edv : Value) (A : List Bool) (E : List Ed) (hA : RbL p w acv A) (hE : EdR p w edv E) :
    Calls Try.prog 3 #[.agg #[acv, edv]] w fun e w' => e = .returned (.bool true) ∧ Fresh w w' := by
  have hF1 : Fresh w (w.alloc (.cells #[acv, edv] 25)) := (Kept.refl _ w).alloc _
  have HX : Hid (∀ X, Fresh (w.alloc (.cells #[acv, edv] 25)) X → Fresh w X ∧ RbL p X acv A ∧ EdR p X edv E ∧ X.cell? ⟨w.heap.size, 0, none⟩ = some acv ∧ X.cell? ⟨w.heap.size, 1, none⟩ = some edv) := fun X hk => by
    have h1 := hk.at (heap_alloc_new w (.cells #[acv, edv] 25)) (fun e => e)
    have h2 := hF1.trans hk (fun _ _ e => e)
    exact ⟨h2, hA.fresh h2, hE.fresh h2, by rw [Lib.cell_of_heap h1]; rfl, by rw [Lib.cell_of_heap h1]; rfl⟩
  have HS : Hid ((chE A E = 0 → aliF A E = drL A E ∧ (aliF A E).length ≤ 64) ∧ (chE A E ≠ 0 → aliF A E = [])) := ⟨ali_same (fun i hi => hE.ok hi), ali_none⟩
  have HDN : Hid ((drL A E).length ≤ 140737488351232) := by show _ ≤ _; rw [drL_len]; exact hA.len
  have HDL : Hid ((drL A E).length = A.length) := drL_len A E
  obtain ⟨ao, ac, rfl⟩ := hA.shape
  obtain ⟨eo, ec, rfl⟩ := hE.shape
  obtain ⟨_, hA1, hE1, _⟩ := HX.out _ (Kept.refl _ _)
  have HGV := show Hid _ from givenG_any _ _ _ A E hA1 hE1
  clear hA hE hF1 hA1 hE1
  obtain ⟨n, hn⟩ : ∃ n, n = A.length := ⟨_, rfl⟩
  obtain ⟨k, hk⟩ : ∃ k, k = E.length := ⟨_, rfl⟩
  rw [← hn, ← hk] at HX HGV
  rw [← hn, ← hk]
  have HN : Hid (n = A.length) := hn
  have HK : Hid (k = E.length) := hk
  clear hn hk
  go_enter Try.func3, Try.ntmps3
  go_wp2_with fail
  refine Calls.mono HGV.out ?_
  generalize w.alloc (.cells #[.slice ao n ac, .slice eo k ec] 25) = W1 at *
  rintro e W2 ⟨tn, en, rfl, hT, hM, hf2⟩
  have hF3 : Fresh W2 (W2.alloc (.cells #[tn, en] 28)) := (Kept.refl _ W2).alloc _
  obtain ⟨to1, tc, rfl⟩ := hT.shape
  obtain ⟨eo2, ec2, rfl⟩ := hM.shape
  rw [← HN.out] at hT
  rw [← HK.out] at hM
  rw [← HN.out, ← HK.out] at hF3
  have HY : Hid (∀ X, Fresh (W2.alloc (.cells #[.slice to1 n tc, .slice eo2 k ec2] 28)) X → Fresh W1 X ∧ RbL (fun _ => True) X (.slice to1 n tc) A ∧ EdR (fun _ => True) X (.slice eo2 k ec2) E ∧ X.cell? ⟨W2.heap.size, 0, none⟩ = some (.slice to1 n tc) ∧ X.cell? ⟨W2.heap.size, 1, none⟩ = some (.slice eo2 k ec2)) := fun X hk => by
    have h1 := hk.at (heap_alloc_new W2 (.cells #[.slice to1 n tc, .slice eo2 k ec2] 28)) (fun e => e)
    have h2 := hF3.trans hk (fun _ _ e => e)
    exact ⟨hf2.trans h2 (fun _ _ e => e), (hT.fresh h2).mono (fun _ _ => trivial), (hM.fresh h2).mono (fun _ _ => trivial), by rw [Lib.cell_of_heap h1]; rfl, by rw [Lib.cell_of_heap h1]; rfl⟩
  rw [← HN.out, ← HK.out]
  clear hT hM hF3 hf2 HGV
  go_upto_region 2 with fail
  generalize W2.alloc (.cells #[.slice to1 n tc, .slice eo2 k ec2] 28) = W3 at *
  generalize W2.heap.size = gb at *
  obtain ⟨h13, _, _, y0, y1⟩ := HY.out W3 (Kept.refl _ _)
  obtain ⟨_, hA3, hE3, x0, x1⟩ := HX.out W3 h13
  have HC1 := show Hid _ from check_any A E _ _ W3 hA3 hE3
  clear hA3 hE3 h13
  generalize hcp : chP A E = cp at *
  generalize hce : chE A E = ce at *
  have HCP : Hid (chP A E = cp) := hcp
  have HCE : Hid (chE A E = ce) := hce
  clear hcp hce
  go_wp2_with fail
  refine Calls.mono HC1.out ?_
  rintro e W4 ⟨rfl, hf4⟩
  have HF4 : Hid (Fresh W3 W4) := hf4
  obtain ⟨h14, hA4, hE4, y0, y1⟩ := HY.out W4 hf4
  have HC2 := show Hid _ from rcheck_any A E _ _ W4 hA4 hE4
  rw [HCP.out, HCE.out] at HC2
  clear hf4 HC1 h14 hA4 hE4 x0 x1
  go_wp2_with fail
  refine Calls.mono HC2.out ?_
  rintro e W5 ⟨rfl, hf5⟩
  have HF5 : Hid (Fresh W3 W5) := HF4.out.trans hf5 (fun _ _ e => e)
  obtain ⟨h15, _, _, y0, y1⟩ := HY.out W5 HF5.out
  obtain ⟨_, hA5, hE5, x0, x1⟩ := HX.out W5 h15
  have HC3 := show Hid _ from aliveFn_any A E _ _ W5 hA5 hE5
  rw [HCE.out] at HC3
  clear hf5 HC2 h15 hA5 hE5 HF4 y0 y1
  go_wp2_with fail
  refine Calls.mono HC3.out ?_
  rintro e W6 ⟨lv, rfl, hown6, hf6⟩
  have HF6 : Hid (Fresh W3 W6) := HF5.out.trans hf6 (fun _ _ e => e)
  obtain ⟨h16, hA6, hE6, y0, y1⟩ := HY.out W6 HF6.out
  have HC4 := show Hid _ from ralive_any A E _ _ W6 hA6 hE6
  have HO6 := show Hid _ from hown6
  obtain ⟨lo, lc, hlv⟩ := ownsRow_shape hown6
  subst hlv
  clear hf6 HC3 h16 hA6 hE6 HF5 x0 x1 hown6
  go_wp2_with fail
  refine Calls.mono HC4.out ?_
  rintro e W7 ⟨wv, rfl, hown7, hf7⟩
  have HF7 : Hid (Fresh W3 W7) := HF6.out.trans hf7 (fun _ _ e => e)
  have HO6b := show Hid _ from owns_kept HO6.out hf7 (fun _ _ e => e)
  obtain ⟨wo, wc, hwv⟩ := ownsRow_shape hown7
  subst hwv
  have HO7 := show Hid _ from hown7
  clear hf7 HC4 HF6 HO6 y0 y1 hown7
  have hcc : (ce == ce) = true := beq_self_eq_true _
  have hcc2 : (cp == cp) = true := beq_self_eq_true _
  have hci : ((ce : Int) == (ce : Int)) = true := beq_self_eq_true _
  have hcj : ((cp : Int) == (cp : Int)) = true := beq_self_eq_true _
  by_cases hz : ce = 0
  · obtain ⟨e1, e2⟩ := HS.out.1 hz
    have HT6 : Hid (∀ X, Fresh W7 X → RbL (fun _ => True) X (.slice lo (aliF A E).length lc) (aliF A E)) := fun X hk => ((rbl_of_own HO6b.out (by omega)).fresh hk).mono (fun _ _ => trivial)
    have HT7 : Hid (∀ X, Fresh W7 X → RbL (fun _ => True) X (.slice wo A.length wc) (drL A E)) := fun X hk => by
      have h7 := HO7.out
      rw [← HDL.out] at h7
      have := ((rbl_of_own h7 HDN.out).fresh hk).mono (q := fun _ => True) (fun _ _ => trivial)
      rwa [HDL.out] at this
    have HEQ : Hid (aliF A E = drL A E) := e1
    clear e1 e2 HS
    generalize aliF A E = L1 at *
    generalize drL A E = L2 at *
    rw [← HN.out] at HT7
    rw [← HN.out]
    subst hz
    have HAW := show Hid _ from awakeG_any W7
    go_wp2_with fail
    refine Calls.mono HAW.out ?_
    rintro e W8 ⟨rfl, hf8⟩
    have HF8 : Hid (Fresh W7 W8) := hf8
    have HTR := show Hid _ from truths_any L1 L2 _ _ W8 (HT6.out W8 hf8) (by have := HT7.out W8 hf8; exact this) HEQ.out
    clear hf8 HAW
    go_wp2_with fail
    refine Calls.mono HTR.out ?_
    rintro e W9 ⟨rfl, hf9⟩
    have HF9 : Hid (Fresh W3 W9) := HF7.out.trans (HF8.out.trans hf9 (fun _ _ e => e)) (fun _ _ e => e)
    obtain ⟨h19, hA9, _, y0, y1⟩ := HY.out W9 HF9.out
    obtain ⟨h29, hB9, _, x0, x1⟩ := HX.out W9 h19
    have HTS := show Hid _ from truths_any A A _ _ W9 hB9 hA9 rfl
    have HF29 := show Hid _ from h29
    clear hf9 h19 hA9 hB9 h29 HTR HF8
    go_wp2_with fail
    refine Calls.mono HTS.out ?_
    rintro e W10 ⟨rfl, hf10⟩
    have HF10 : Hid (Fresh w W10) := HF29.out.trans hf10 (fun _ _ e => e)
    clear hf10 HTS
    go_wp2
    go_ret
    exact ⟨rfl, HF10.out⟩
  · have e1 := HS.out.2 hz
    have hce : ((ce : Int) != 0) = true := bne_iff_ne.2 (by omega)
    rw [e1] at HO6b
    rw [e1]
    have HT6 : Hid (∀ X, Fresh W7 X → RbL (fun _ => True) X (.slice lo 0 lc) []) := fun X hk => ((rbl_of_own HO6b.out (by simp)).fresh hk).mono (fun _ _ => trivial)
    clear HS hz e1
    rw [List.length_nil]
    have hk8 : Fresh W7 (W7.alloc (.cells #[] 4)) := (Kept.refl _ W7).alloc _
    have HK8 := show Hid _ from hk8
    have HT8 : Hid (∀ X, Fresh (W7.alloc (.cells #[] 4)) X → RbL (fun _ => True) X (.slice (some ⟨W7.heap.size, 0, none⟩) 0 0) []) := fun X hk => ⟨_, 0, rfl, fun e => (by cases e), Nat.le_refl _, by simp, fun h => absurd h (Nat.lt_irrefl _)⟩
    have HAW := show Hid _ from awakeG_any (W7.alloc (.cells #[] 4))
    clear hk8
    go_wp2_with fail
    refine Calls.mono HAW.out ?_
    rintro e W8 ⟨rfl, hf8⟩
    have HF8 : Hid (Fresh W7 W8) := HK8.out.trans hf8 (fun _ _ e => e)
    have HTR := show Hid _ from truths_any [] [] _ _ W8 (HT6.out W8 HF8.out) (HT8.out W8 hf8) rfl
    clear hf8 HAW HT8 HK8
    go_wp2_with fail
    refine Calls.mono HTR.out ?_
    rintro e W9 ⟨rfl, hf9⟩
    have HF9 : Hid (Fresh W3 W9) := HF7.out.trans (HF8.out.trans hf9 (fun _ _ e => e)) (fun _ _ e => e)
    obtain ⟨h19, hA9, _, y0, y1⟩ := HY.out W9 HF9.out
    obtain ⟨h29, hB9, _, x0, x1⟩ := HX.out W9 h19
    have HTS := show Hid _ from truths_any A A _ _ W9 hB9 hA9 rfl
    have HF29 := show Hid _ from h29
    clear hf9 h19 hA9 hB9 h29 HTR HF8
    go_wp2_with fail
    refine Calls.mono HTS.out ?_
    rintro e W10 ⟨rfl, hf10⟩
    have HF10 : Hid (Fresh w W10) := HF29.out.trans hf10 (fun _ _ e => e)
    clear hf10 HTS
    go_wp2
    go_ret
    exact ⟨rfl, HF10.out⟩

set_option maxRecDepth 100000 in
theorem contract (H : Type) (enc : TypeId × Value → H) (W : World) (base : Nat) (args : Array Value) (ds gs : List (DataW H)) (before : List MemPlace)
    (hval : ∀ (j : Nat) t v, Try.f3.params[j]? = some t → args[j]? = some v → Value.okWide Try.prog W .any base t v)
    (hW : DataW.Whole enc Try.prog Try.f3.params.toList Rows.guideChecksSpec.vars false W args.toList ds gs before) 
    (hsz : (DataW.weightsEach Try.prog (Try.f3.params.toList ++ []) (ds ++ gs)).all (· ≤ reachBytes) = true) (hL : laidMetH Try.prog Rows.guideChecksRow.laid W) :
    Calls Try.prog 3 args W fun e W' => ∃ v, e = .returned v ∧ Rows.guideChecksSpec.post enc Try.prog Try.f3 false true false false W args v W' := by
  have hW' := hW
  obtain ⟨p, q, hA0, hV, rfl, hfz, hnd⟩ := hW
  have hA : DataW.TrodAll enc Try.prog W 0 (fun _ => true) true Try.f3.params.toList args.toList ds p := hA0
  rw [Try.params3] at hA hval hsz
  obtain ⟨rfl, rfl⟩ := trodVars_none hV
  have _hL := hL
  obtain ⟨v0, d0, rfl, rfl, h0⟩ := trodAll_one hA
  obtain ⟨acv, edv, A, E, rfl, hA', hE'⟩ := guide_of (hval 0 25 v0 rfl rfl) h0 hsz (j := 0) rfl rfl
  refine (walk W acv edv A E hA' hE').mono fun e W' ⟨he, hk⟩ => ?_
  subst he
  exact ⟨_, rfl, post_law rfl (by kernel_rfl) (by kernel_rfl) hW' rfl hk⟩

set_option maxRecDepth 100000 in
theorem laid_met (os : Os) : laidMet Try.prog Rows.guideChecksRow.laid ((layIn (World.holding Try.prog os ⟨#[], #[], []⟩)).forCall (fun _ _ => 0) ⟨#[], #[.agg #[.slice none 0 0, .slice none 0 0]], []⟩).memory :=
  laidMet_of_run' 8 (by kernel_rfl) (by kernel_rfl)
set_option maxRecDepth 100000 in
theorem reads (os : Os) {H : Type} (enc : TypeId × Value → H) : ∃ places, DataW.whole enc Try.prog ((layIn (World.holding Try.prog os ⟨#[], #[], []⟩)).forCall (fun _ _ => 0) ⟨#[], #[.agg #[.slice none 0 0, .slice none 0 0]], []⟩).memory Try.f3.params.toList Rows.guideChecksSpec.vars false (#[.agg #[.slice none 0 0, .slice none 0 0]] : Array Value).toList 8 = some ([.agg [.nil, .nil]], [], places) :=
  ⟨[], by kernel_rfl⟩

set_option maxRecDepth 100000 in
theorem lifted (os : Os) (started : os.Started) (H : Type) (enc : TypeId × Value → H) (F : Stop.Interp) :
    ReturnsInHanded {} Try.checked os 3 .any ((OpenSpec.ofChange Rows.guideChecksSpec).preRow enc Try.prog Try.f3 Rows.guideChecksRow.domain false Rows.guideChecksRow.laid) (((OpenSpec.ofChange Rows.guideChecksSpec).at F).post enc Try.prog Try.f3 false true false false) := by
  obtain ⟨places, hx⟩ := reads os enc
  refine returnsInHanded_of_row (C := Try.checked) (s := OpenSpec.ofChange Rows.guideChecksSpec) Try.own started (by kernel_rfl) Try.func3
    (witness_row_at (enc := enc) (C := Try.checked) false (layIn (World.holding Try.prog os ⟨#[], #[], []⟩)) #[.agg #[.slice none 0 0, .slice none 0 0]] rfl (by kernel_rfl) (by kernel_rfl) (by kernel_rfl)
      (OpenSpec.preRow_of_cond 8 hx (by kernel_rfl) (fun k hk => by cases hk) (by kernel_rfl) (laid_met os))) ?_
  intro W base args ds gs before hval hW _ hc hsz hL _ _
  exact contract H enc W base args ds gs before hval hW hsz hL

theorem said : Rows.GuideChecksSaid :=
  OpenClaim.holds_of_cond 3 Try.f3 rfl rfl rfl rfl rfl rfl rfl ⟨rfl, rfl, rfl, rfl, rfl⟩ rfl rfl rfl rfl rfl (by kernel_rfl) Try.func3 (by kernel_rfl)
    (of_decide_eq_true (by kernel_rfl)) (by unfold Func.isWrapper; first | (rw [if_pos (by decide +kernel)]; kernel_rfl) | (rw [if_neg (by decide +kernel)]; exact ⟨rfl, rfl⟩))
    (fun os started H enc _ F => by rw [OpenClaim.pre_eq_preRow]; exact lifted os started H enc F)


end Go.Proofs.Ytomafgpmiidhlaa.GChecks
namespace Go.Proofs.Ytomafgpmiidhlaa
theorem guideChecks_holds : Rows.GuideChecksSaid := GChecks.said
end Go.Proofs.Ytomafgpmiidhlaa
