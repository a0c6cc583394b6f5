/-
  For every matrix, every list of rows and every row the statement VecTimes answers true: awake does; Times and Batch are the document's; what is handed in stays.
-/
import Derived.Test.YtjffiojjjmecgaaVcm
namespace Go.Proofs.Ytjffiojjjmecgaa.Times8
open Go.ChangeShapes Go.WideShapes Go.ChangeAt Go.RowKit Go.Lib Go.Maps

set_option maxHeartbeats 16000000 in
set_option maxRecDepth 100000 in
theorem walk (wv xv yv : Value) (zs ys : List Int) (X : List (List Int)) (c : Int) (w : World) (hw : Rk .i8 (fun b => b < w.heap.size) w wv zs) (hx : LL .i8 (fun b => b < w.heap.size) w xv X) (hy : Rk .i8 (fun b => b < w.heap.size) w yv ys) (hc : I64 c) :
    Calls Try.prog 4 #[.agg #[wv, zV c, xv], yv] w fun e w' => e = .returned (.bool true) ∧ Fresh w w' := by
  have HAW : Hid (∀ W : World, _) := fun (W : World) => awake_any W
  obtain ⟨W0, hW0⟩ : ∃ W0, W0 = w.alloc (.cells #[wv, zV c, xv] 34) := ⟨_, rfl⟩
  have HF0 : Hid (Fresh w W0) := by show Fresh _ _; rw [hW0]; exact (Kept.refl _ w).alloc _
  have p1 : W0.heap[w.heap.size]? = some (.cells #[wv, zV c, xv] 34 (0, 0)) := by rw [hW0]; exact heap_alloc_new w _
  have HP : Hid (∀ W, Fresh W0 W → W.cell? ⟨w.heap.size, 0, none⟩ = some wv ∧ W.cell? ⟨w.heap.size, 1, none⟩ = some (zV c) ∧ W.cell? ⟨w.heap.size, 2, none⟩ = some xv ∧ w.heap.size < W.heap.size) := fun W hF => by
    have q1 := hF.at p1 (fun e => e)
    exact ⟨by rw [Lib.cell_of_heap q1]; rfl, by rw [Lib.cell_of_heap q1]; rfl, by rw [Lib.cell_of_heap q1]; rfl, lt_of_heap q1⟩
  have HR : Hid (∀ W, Fresh W0 W → Rk .i8 (fun b => b < w.heap.size) W wv zs ∧ LL .i8 (fun b => b < w.heap.size) W xv X ∧ Rk .i8 (fun b => b < w.heap.size) W yv ys) := fun W hF => by
    have := HF0.out.trans hF (fun _ _ e => e)
    exact ⟨hw.fresh this, hx.fresh this, hy.fresh this⟩
  have HTw : Hid (∀ (X Z : World), Fresh W0 X → Fresh (X.alloc (.cells #[] 49)) Z → ∃ ta tc Y, (Builtin.append_ #[22, 22] 22 #[.slice (some ⟨X.heap.size, 0, none⟩) 0 0, wv]).run Try.prog Z = .ok (.slice ta zs.length tc) Y ∧ Fresh W0 Y ∧ Kept (fun b => b = X.heap.size) Z Y ∧ Rk .i8 (fun b => X.heap.size ≤ b ∧ b < Y.heap.size) Y (.slice ta zs.length tc) zs) := fun Y Z hX hZ =>
    twin_late W0 wv zs ((hw.fresh HF0.out).mono (fun b hb => Nat.lt_of_lt_of_le hb HF0.out.size)) Y Z hX hZ
  have HI : Hid (I64 c ∧ (∀ x : List Int, (∀ z ∈ x, C8 z) → (tL zs c x).length * kb .i64 ≤ 140737488351232 ∧ ∀ z ∈ tL zs c x, Fit .i64 z) ∧ (∀ z ∈ ys, C8 z) ∧ (bL zs c X).length * 24 ≤ 140737488351232 ∧ ∀ x ∈ bL zs c X, x.length * kb .i64 ≤ 140737488351232 ∧ ∀ z ∈ x, Fit .i64 z) := by
    have h1 : ∀ x : List Int, (∀ z ∈ x, C8 z) → (tL zs c x).length * kb .i64 ≤ 140737488351232 ∧ ∀ z ∈ tL zs c x, Fit .i64 z := fun x h => ⟨by have := tL_len zs x c; simp [kb]; omega, tL_i64 c hw.all h⟩
    refine ⟨hc, h1, hy.all, ?_, fun x hm => ?_⟩
    · have := hx.many
      unfold bL
      split
      · rw [List.length_map]; exact this
      · simp
    · unfold bL at hm
      split at hm
      · obtain ⟨x', hx', rfl⟩ := List.mem_map.1 hm
        refine h1 x' ?_
        obtain ⟨i, hi, rfl⟩ := List.getElem_of_mem hx'
        obtain ⟨ao, cap, _, _, hcl, _⟩ := hx
        obtain ⟨b, off, _, _, _, hcell⟩ := hcl (fun e => by rw [e] at hi; simp at hi)
        obtain ⟨u, _, hu⟩ := hcell i hi
        have := hu.all
        rwa [List.getD_eq_getElem?_getD, List.getElem?_eq_getElem hi] at this
      · cases hm
  have HCp : Hid (∀ W, Fresh W0 W → Calls Try.prog 12 #[xv] W fun e w' => ∃ ca cl cc, e = .returned (.slice ca cl cc) ∧ LL .i8 (fun b => W.heap.size ≤ b ∧ b < w'.heap.size) w' (.slice ca cl cc) X ∧ Fresh W w') := fun W hF => (copied_any _ _ _ W (HR.out W hF).2.1).mono fun e w' ⟨v, h1, h2, h3⟩ => by
    obtain ⟨a, c, hv, _⟩ := h2.shape
    subst hv
    exact ⟨_, _, _, h1, h2, h3⟩
  obtain ⟨wa, wcp, hwv, _⟩ := hw.shape
  obtain ⟨xa, xc, hxv, _⟩ := hx.shape
  obtain ⟨ya, yc, hyv, _⟩ := hy.shape
  subst hwv
  subst hxv
  subst hyv
  clear hw p1 hc hx hy
  go_enter Try.func4, Try.ntmps4
  go_wp2_with fail
  rw [← hW0]
  refine (HAW.out _).mono ?_
  rintro e w1 ⟨rfl, hF1⟩
  have HF1 : Hid (Fresh W0 w1.drew) := hF1.drew
  obtain ⟨c1, c2, c3, hlt1⟩ := HP.out w1 hF1
  clear hW0 HAW hF1
  go_upto_region 3 with fail
  go_cut [5, 6] (fun tv cv w' => ∃ ta tc ca cl cc, tv = .slice ta zs.length tc ∧ cv = .slice ca cl cc ∧ Hid (Fresh W0 w' ∧ Rk .i8 (fun _ => True) w' (.slice ta zs.length tc) zs ∧ LL .i8 (fun _ => True) w' (.slice ca cl cc) X))
  case first =>
    clear HR HI
    go_region_law (first
      | (obtain ⟨ta, tc, Y, hrY, hFY, hKY, hRY⟩ := HTw.out w1.drew (w1.drew.alloc (.cells #[] 49)) HF1.out (Kept.refl _ _); refine step_append_run rfl _ _ _ _ rfl _ _ (by rfl) (by rfl) _ _ hrY ?_; obtain ⟨k1, k2, k3, k4⟩ := HP.out Y hFY)
      | (obtain ⟨ta, tc, Y, hrY, hFY, hKY, hRY⟩ := HTw.out w1.drew X5 HF1.out hF5; refine step_append_run rfl _ _ _ _ rfl _ _ (by rfl) (by rfl) _ _ hrY ?_; obtain ⟨k1, k2, k3, k4⟩ := HP.out Y hFY)
      | (obtain ⟨ta, tc, Y, hrY, hFY, hKY, hRY⟩ := HTw.out X5 (X5.alloc (.cells #[] 49)) hF5' (Kept.refl _ _); refine step_append_run rfl _ _ _ _ rfl _ _ (by rfl) (by rfl) _ _ hrY ?_; obtain ⟨k1, k2, k3, k4⟩ := HP.out Y hFY)
      | (go_simp; go_wp2_with (first
        | (go_at_call 12; (with_reducible refine (HCp.out _ HF1.out).mono ?_); rintro q X5 ⟨ca5, cl5, cc5, rfl, hL5, hF5⟩; have hF5' := HF1.out.trans hF5 (fun _ _ e => e); obtain ⟨j1, j2, j3, j4⟩ := HP.out X5 hF5')
        | (go_at_call 12; (with_reducible refine (HCp.out _ (HF1.out.alloc _)).mono ?_); rintro q X5 ⟨ca5, cl5, cc5, rfl, hL5, hF5⟩; have hF5' := (HF1.out.alloc (.cells #[] 49)).trans hF5 (fun _ _ e => e); obtain ⟨j1, j2, j3, j4⟩ := HP.out X5 hF5')
        | (go_at_call 12; (with_reducible refine (HCp.out _ hFY).mono ?_); rintro q X5 ⟨ca5, cl5, cc5, rfl, hL5, hF5⟩; have hF5' := hFY.trans hF5 (fun _ _ e => e); obtain ⟨j1, j2, j3, j4⟩ := HP.out X5 hF5'))))
    all_goals
      go_wp2
      go_meet
      case rel => first
        | exact ⟨ta, tc, ca5, cl5, cc5, rfl, rfl, ⟨hF5', (hRY.fresh hF5).mono (fun _ _ => trivial), hL5.mono (fun _ _ => trivial)⟩⟩
        | exact ⟨ta, tc, ca5, cl5, cc5, rfl, rfl, ⟨hFY, hRY.mono (fun _ _ => trivial), (hL5.kept hKY (fun b hb e => by simp at hb; omega)).mono (fun _ _ => trivial)⟩⟩
        | exact ⟨ta, tc, ca5, cl5, cc5, rfl, rfl, ⟨hFY, hRY.mono (fun _ _ => trivial), ((hL5.fresh ((Kept.refl (fun _ => False) X5).alloc _)).kept hKY (fun b hb e => by omega)).mono (fun _ _ => trivial)⟩⟩
  case rest =>
    obtain ⟨ta, tc, ca, cl, cc, rfl, rfl, HA⟩ := hcut
    clear HTw HCp HF1 c1 c2 c3 hlt1
    have HAt : Hid (∀ W, Fresh wc W → Fresh W0 W ∧ Rk .i8 (fun _ => True) W (.slice ta zs.length tc) zs ∧ LL .i8 (fun _ => True) W (.slice ca cl cc) X) := fun W hF => ⟨HA.out.1.trans hF (fun _ _ e => e), HA.out.2.1.fresh hF, HA.out.2.2.fresh hF⟩
    have HFc : Hid (Fresh W0 wc) := HA.out.1
    clear HA
    obtain ⟨c1, c2, c3, _⟩ := HP.out wc HFc.out
    have H1 : Hid (Unit → _) := fun (_ : Unit) => Times_any _ _ _ _ zs ys c wc (HAt.out wc (Kept.refl _ _)).2.1 (HR.out wc HFc.out).2.2 HI.out.1
    go_wp2_with fail
    refine (H1.out ()).mono ?_
    rintro e w2 hG
    obtain ⟨hi1, hi2⟩ := HI.out.2.1 ys HI.out.2.2.1
    obtain ⟨v2, rfl, hR2, hF2⟩ := hG.row hi1 hi2
    have HF2 : Hid (Fresh wc w2) := hF2
    have HR2 : Hid (Rk .i64 (fun _ => True) w2 v2 (tL zs c ys)) := hR2.mono (fun _ _ => trivial)
    clear c1 c2 c3 H1 hG hR2 hF2 hi1 hi2
    obtain ⟨c1, c2, c3, _⟩ := HP.out w2 (HAt.out w2 HF2.out).1
    have H2 : Hid (Unit → _) := fun (_ : Unit) => refTimes_any _ _ _ _ zs ys c w2 (HR.out w2 (HAt.out w2 HF2.out).1).1 (HR.out w2 (HAt.out w2 HF2.out).1).2.2 HI.out.1
    go_wp2_with fail
    refine (H2.out ()).mono ?_
    rintro e w3 hG
    obtain ⟨hi1, hi2⟩ := HI.out.2.1 ys HI.out.2.2.1
    obtain ⟨v3, rfl, hR3, hF3⟩ := hG.row hi1 hi2
    have HF3 : Hid (Fresh wc w3) := HF2.out.trans hF3 (fun _ _ e => e)
    have H3 : Hid (Unit → _) := fun (_ : Unit) => same64_any _ _ _ _ _ w3 (HR2.out.fresh hF3) hR3
    clear c1 c2 c3 H2 hG hR3 hF3 hi1 hi2 HF2 HR2
    go_wp2_with fail
    refine (H3.out ()).mono ?_
    rintro e w4 ⟨rfl, n4, hw4⟩
    have HF4 : Hid (Fresh wc w4) := by show Fresh _ _; rw [hw4]; exact HF3.out.drewN n4
    clear hw4 H3 HF3
    generalize tE zs c ys = E1 at *
    obtain ⟨c1, c2, c3, _⟩ := HP.out w4 (HAt.out w4 HF4.out).1
    have H5 : Hid (Unit → _) := fun (_ : Unit) => Batch_any _ _ _ _ zs X c w4 (HAt.out w4 HF4.out).2.1 (HAt.out w4 HF4.out).2.2 HI.out.1
    go_wp2_with fail
    refine (H5.out ()).mono ?_
    rintro e w5 ⟨v5, rfl, hO5, hF5⟩
    have HF5 : Hid (Fresh wc w5) := HF4.out.trans hF5 (fun _ _ e => e)
    have HL5 : Hid (LL .i64 (fun _ => True) w5 v5 (bL zs c X)) := (hO5.ll HI.out.2.2.2.1 HI.out.2.2.2.2).mono (fun _ _ => trivial)
    clear c1 c2 c3 H5 hO5 hF5 HF4
    obtain ⟨c1, c2, c3, _⟩ := HP.out w5 (HAt.out w5 HF5.out).1
    have H6 : Hid (Unit → _) := fun (_ : Unit) => refBatch_any _ _ _ _ zs X c w5 (HR.out w5 (HAt.out w5 HF5.out).1).1 (HR.out w5 (HAt.out w5 HF5.out).1).2.1 HI.out.1
    go_wp2_with fail
    refine (H6.out ()).mono ?_
    rintro e w6 ⟨v6, rfl, hL6, hF6⟩
    have HF6 : Hid (Fresh wc w6) := HF5.out.trans hF6 (fun _ _ e => e)
    have H7 : Hid (Unit → _) := fun (_ : Unit) => rows64_any _ _ _ _ _ w6 (HL5.out.fresh hF6) hL6
    clear c1 c2 c3 H6 hL6 hF6 HF5 HL5
    go_wp2_with fail
    refine (H7.out ()).mono ?_
    rintro e w7 ⟨rfl, n7, hw7⟩
    have HF7 : Hid (Fresh wc w7) := by show Fresh _ _; rw [hw7]; exact HF6.out.drewN n7
    clear hw7 H7 HF6
    generalize bB zs c X = E2 at *
    obtain ⟨c1, c2, c3, _⟩ := HP.out w7 (HAt.out w7 HF7.out).1
    have H8 : Hid (Unit → _) := fun (_ : Unit) => same8_any _ _ _ _ _ w7 (HAt.out w7 HF7.out).2.1 (HR.out w7 (HAt.out w7 HF7.out).1).1
    go_wp2_with fail
    refine (H8.out ()).mono ?_
    rintro e w8 ⟨rfl, n8, hw8⟩
    have HF8 : Hid (Fresh wc w8) := by show Fresh _ _; rw [hw8]; exact HF7.out.drewN n8
    clear hw8 H8 HF7 c1 c2 c3
    obtain ⟨c1, c2, c3, _⟩ := HP.out w8 (HAt.out w8 HF8.out).1
    have H9 : Hid (Unit → _) := fun (_ : Unit) => rows8_any _ _ _ _ _ w8 (HAt.out w8 HF8.out).2.2 (HR.out w8 (HAt.out w8 HF8.out).1).2.1
    go_wp2_with fail
    refine (H9.out ()).mono ?_
    rintro e w9 ⟨rfl, n9, hw9⟩
    have HF9 : Hid (Fresh w w9) := by show Fresh _ _; rw [hw9]; exact HF0.out.trans ((HFc.out.trans HF8.out (fun _ _ e => e)).drewN n9) (fun _ _ e => e)
    clear hw9 H9 HF8 c1 c2 c3 HP HR HI HAt
    go_wp2
    go_ret
    exact ⟨by simp, HF9.out⟩

set_option maxRecDepth 100000 in
theorem contract (H : Type) (enc : TypeId × Value → H) (W : World) (base : Nat) (args : Array Value) (ds gs : List (DataW H)) (before : List MemPlace)
    (hval : ∀ (j : Nat) t v, Try.f4.params[j]? = some t → args[j]? = some v → Value.okWide Try.prog W .any base t v)
    (hW : DataW.Whole enc Try.prog Try.f4.params.toList Rows.vecTimesSpec.vars false W args.toList ds gs before) 
    (hsz : (DataW.weightsEach Try.prog (Try.f4.params.toList ++ []) (ds ++ gs)).all (· ≤ reachBytes) = true) (hL : laidMetH Try.prog Rows.vecTimesRow.laid W) :
    Calls Try.prog 4 args W fun e W' => ∃ v, e = .returned v ∧ Rows.vecTimesSpec.post enc Try.prog Try.f4 false true false false W args v W' := by
  have hW' := hW
  obtain ⟨p, q, hA0, hV, rfl, hfz, hnd⟩ := hW
  have hA : DataW.TrodAll enc Try.prog W 0 (fun _ => true) true Try.f4.params.toList args.toList ds p := hA0
  rw [Try.params4] at hA hval hsz
  obtain ⟨rfl, rfl⟩ := trodVars_none hV
  have _hL := hL
  obtain ⟨v0, v1, d0, d1, p0, p1, rfl, rfl, rfl, h0, h1⟩ := trodAll_two hA
  obtain ⟨ao, ln, cap, rfl⟩ := okWide_slice Try.underlying22 (hval 1 22 v1 rfl rfl)
  obtain ⟨wv, xv, c, zs, L, rfl, hc, hz, hx⟩ := matrix_of (hval 0 34 v0 rfl rfl) h0 hsz (j := 0) rfl rfl
  obtain ⟨fuel, hf⟩ := h1
  obtain ⟨ys, hy, _⟩ := row_of ty8 (x := (d1, _)) hf (fun es sp e => by
    have e' : d1 = .slice es sp := e
    subst e'
    have := sized_slice hsz (j := 1) (t := 22) (e := 49) rfl rfl Try.underlying22
    rw [Try.b8] at this
    simp only [reachBytes] at this
    simp [kb]
    omega)
  refine (walk wv xv _ zs ys L c W hz hx hy hc).mono fun e W' ⟨he, hk⟩ => ?_
  subst he
  exact ⟨_, rfl, post_law rfl (by kernel_rfl) (by kernel_rfl) hW' rfl hk⟩

set_option maxRecDepth 100000 in
theorem laid_met (os : Os) : laidMet Try.prog Rows.vecTimesRow.laid ((layIn (World.holding Try.prog os ⟨#[], #[], []⟩)).forCall (fun _ _ => 0) ⟨#[], #[.agg #[.slice none 0 0, .int .i64 0, .slice none 0 0], .slice none 0 0], []⟩).memory :=
  laidMet_of_run' 8 (by kernel_rfl) (by kernel_rfl)
set_option maxRecDepth 100000 in
theorem reads (os : Os) {H : Type} (enc : TypeId × Value → H) : ∃ places, DataW.whole enc Try.prog ((layIn (World.holding Try.prog os ⟨#[], #[], []⟩)).forCall (fun _ _ => 0) ⟨#[], #[.agg #[.slice none 0 0, .int .i64 0, .slice none 0 0], .slice none 0 0], []⟩).memory Try.f4.params.toList Rows.vecTimesSpec.vars false (#[.agg #[.slice none 0 0, .int .i64 0, .slice none 0 0], .slice none 0 0] : Array Value).toList 8 = some ([.agg [.nil, .lit (.int .i64 0), .nil], .nil], [], places) :=
  ⟨[], by kernel_rfl⟩

set_option maxRecDepth 100000 in
theorem lifted (os : Os) (started : os.Started) (H : Type) (enc : TypeId × Value → H) (F : Stop.Interp) :
    ReturnsInHanded {} Try.checked os 4 .any ((OpenSpec.ofChange Rows.vecTimesSpec).preRow enc Try.prog Try.f4 Rows.vecTimesRow.domain false Rows.vecTimesRow.laid) (((OpenSpec.ofChange Rows.vecTimesSpec).at F).post enc Try.prog Try.f4 false true false false) := by
  obtain ⟨places, hx⟩ := reads os enc
  refine returnsInHanded_of_row (C := Try.checked) (s := OpenSpec.ofChange Rows.vecTimesSpec) Try.own started (by kernel_rfl) Try.func4
    (witness_row_at (enc := enc) (C := Try.checked) false (layIn (World.holding Try.prog os ⟨#[], #[], []⟩)) #[.agg #[.slice none 0 0, .int .i64 0, .slice none 0 0], .slice none 0 0] rfl (by kernel_rfl) (by kernel_rfl) (by kernel_rfl)
      (OpenSpec.preRow_of_cond 8 hx (by kernel_rfl) (fun k hk => by cases hk) (by kernel_rfl) (laid_met os))) ?_
  intro W base args ds gs before hval hW _ hc hsz hL _ _
  exact contract H enc W base args ds gs before hval hW hsz hL

theorem said : Rows.VecTimesSaid :=
  OpenClaim.holds_of_cond 4 Try.f4 rfl rfl rfl rfl rfl rfl rfl ⟨rfl, rfl, rfl, rfl, rfl⟩ rfl rfl rfl rfl rfl (by kernel_rfl) Try.func4 (by kernel_rfl)
    (of_decide_eq_true (by kernel_rfl)) (by unfold Func.isWrapper; first | (rw [if_pos (by decide +kernel)]; kernel_rfl) | (rw [if_neg (by decide +kernel)]; exact ⟨rfl, rfl⟩))
    (fun os started H enc _ F => by rw [OpenClaim.pre_eq_preRow]; exact lifted os started H enc F)



end Go.Proofs.Ytjffiojjjmecgaa.Times8
namespace Go.Proofs.Ytjffiojjjmecgaa
theorem vecTimes_holds : Rows.VecTimesSaid := Times8.said
end Go.Proofs.Ytjffiojjjmecgaa
