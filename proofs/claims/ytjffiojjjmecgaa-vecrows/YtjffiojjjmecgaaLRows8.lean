/-
  For every matrix and every place the statement VecRows answers true: awake does; Row and Sizes are the document's.
-/
import Derived.Test.YtjffiojjjmecgaaVcg
import Derived.Test.YtjffiojjjmecgaaVch
namespace Go.Proofs.Ytjffiojjjmecgaa.Rows8
open Go.ChangeShapes Go.WideShapes Go.ChangeAt Go.RowKit Go.Lib Go.Maps

set_option maxHeartbeats 8000000 in
set_option maxRecDepth 100000 in
theorem walk (wv xv : Value) (zs : List Int) (c i : Int) (w : World) (hw : Rk .i8 (fun b => b < w.heap.size) w wv zs) (hc : I64 c) (hi : I64 i) :
    Calls Try.prog 5 #[.agg #[wv, zV c, xv], zV i] w fun e w' => e = .returned (.bool true) ∧ Fresh w w' := by
  have HAW : Hid (∀ W : World, _) := fun (W : World) => awake_any W
  obtain ⟨W0, hW0⟩ : ∃ W0, W0 = w.alloc (.cells #[wv, zV c, xv] 34) := ⟨_, rfl⟩
  have HF0 : Hid (Fresh w W0) := by show Fresh _ _; rw [hW0]; exact (Kept.refl _ w).alloc _
  have p1 : W0.heap[w.heap.size]? = some (.cells #[wv, zV c, xv] 34 (0, 0)) := by rw [hW0]; exact heap_alloc_new w _
  have HP : Hid (∀ W, Fresh W0 W → (W.cell? ⟨w.heap.size, 0, none⟩ = some wv ∧ W.cell? ⟨w.heap.size, 1, none⟩ = some (zV c)) ∧ Rk .i8 (fun b => b < w.heap.size) W wv zs) := fun W hF => by
    have q1 := hF.at p1 (fun e => e)
    exact ⟨⟨by rw [Lib.cell_of_heap q1]; rfl, by rw [Lib.cell_of_heap q1]; rfl⟩, hw.fresh (HF0.out.trans hF (fun _ _ e => e))⟩
  have HI : Hid ((rL zs c i).length * kb .i8 ≤ 140737488351232 ∧ (∀ z ∈ rL zs c i, Fit .i8 z) ∧ (zL zs c).length * kb .i64 ≤ 140737488351232 ∧ (∀ z ∈ zL zs c, Fit .i64 z) ∧ I64 c ∧ I64 i) := by
    refine ⟨?_, fun z hz => hw.all z (rL_mem hz), ?_, fun z hz => ?_, hc, hi⟩
    · have := rL_len zs c i
      have := hw.many
      simp [kb]; omega
    · have := zL_len zs c
      simp [kb]; omega
    · have := zL_i64 c hw.all z hz
      exact ⟨by omega, by omega⟩
  clear hw p1 hc hi
  go_enter Try.func5, Try.ntmps5
  go_wp2_with fail
  rw [← hW0]
  refine (HAW.out _).mono ?_
  rintro e w1 ⟨rfl, hF1⟩
  have HF1 : Hid (Fresh W0 w1) := hF1
  obtain ⟨⟨c1, c2⟩, hR1⟩ := HP.out w1 hF1
  have H1 : Hid (Unit → _) := fun (_ : Unit) => Row_any _ _ _ c i w1 hR1 HI.out.2.2.2.2.2
  clear hW0 HAW hF1 hR1
  go_wp2_with fail
  refine (H1.out ()).mono ?_
  rintro e w2 hG
  obtain ⟨v2, rfl, hR2, hF2⟩ := hG.row HI.out.1 HI.out.2.1
  have HF2 : Hid (Fresh W0 w2) := HF1.out.trans hF2 (fun _ _ e => e)
  clear c1 c2 H1 hF2 HF1 hG
  obtain ⟨⟨c1, c2⟩, hR⟩ := HP.out w2 HF2.out
  have HR2 : Hid (Rk .i8 (fun b => w1.heap.size ≤ b ∧ b < w2.heap.size) w2 v2 (rL zs c i)) := hR2
  have H2 : Hid (Unit → _) := fun (_ : Unit) => refRow_any _ _ _ c i w2 hR HI.out.2.2.2.2.2
  clear hR hR2
  go_wp2_with fail
  refine (H2.out ()).mono ?_
  rintro e w3 ⟨v3, rfl, hR3, hw3⟩
  have hw3' := hw3.symm
  subst hw3'
  have H3 : Hid (Unit → _) := fun (_ : Unit) => same8_any _ _ _ _ _ w2 HR2.out hR3
  clear hw3 H2 HR2 hR3 c1 c2
  go_wp2_with fail
  refine (H3.out ()).mono ?_
  rintro e w4 ⟨rfl, n4, hw4⟩
  have HF4 : Hid (Fresh W0 w4) := by show Fresh _ _; rw [hw4]; exact HF2.out.drewN n4
  clear hw4 H3 HF2
  obtain ⟨⟨c1, c2⟩, hR⟩ := HP.out w4 HF4.out
  have H5 : Hid (Unit → _) := fun (_ : Unit) => Sizes_any _ _ _ c w4 hR HI.out.2.2.2.2.1
  clear hR
  generalize rE zs c i = E1 at *
  go_wp2_with fail
  refine (H5.out ()).mono ?_
  rintro e w5 hG
  obtain ⟨v5, rfl, hR5, hF5⟩ := hG.row HI.out.2.2.1 HI.out.2.2.2.1
  have HF5 : Hid (Fresh W0 w5) := HF4.out.trans hF5 (fun _ _ e => e)
  have HR5 : Hid (Rk .i64 (fun b => w4.heap.size ≤ b ∧ b < w5.heap.size) w5 v5 (zL zs c)) := hR5
  clear c1 c2 H5 hF5 HF4 hG hR5
  obtain ⟨⟨c1, c2⟩, hR⟩ := HP.out w5 HF5.out
  have H6 : Hid (Unit → _) := fun (_ : Unit) => refSizes_any _ _ _ c w5 hR HI.out.2.2.2.2.1
  clear hR
  go_wp2_with fail
  refine (H6.out ()).mono ?_
  rintro e w6 hG
  obtain ⟨v6, rfl, hR6, hF6⟩ := hG.row HI.out.2.2.1 HI.out.2.2.2.1
  have HF6 : Hid (Fresh W0 w6) := HF5.out.trans hF6 (fun _ _ e => e)
  have H7 : Hid (Unit → _) := fun (_ : Unit) => same64_any _ _ _ _ _ w6 (HR5.out.fresh hF6) hR6
  clear c1 c2 H6 hF6 HF5 hG hR6 HR5
  go_wp2_with fail
  refine (H7.out ()).mono ?_
  rintro e w7 ⟨rfl, n7, hw7⟩
  have HF7 : Hid (Fresh w w7) := by show Fresh _ _; rw [hw7]; exact HF0.out.trans (HF6.out.drewN n7) (fun _ _ e => e)
  clear hw7 H7 HF6 HF0 HI HP
  generalize mE zs c = E2 at *
  go_wp2
  go_ret
  exact ⟨by simp, HF7.out⟩

set_option maxRecDepth 100000 in
theorem contract (H : Type) (enc : TypeId × Value → H) (W : World) (base : Nat) (args : Array Value) (ds gs : List (DataW H)) (before : List MemPlace)
    (hval : ∀ (j : Nat) t v, Try.f5.params[j]? = some t → args[j]? = some v → Value.okWide Try.prog W .any base t v)
    (hW : DataW.Whole enc Try.prog Try.f5.params.toList Rows.vecRowsSpec.vars false W args.toList ds gs before) 
    (hsz : (DataW.weightsEach Try.prog (Try.f5.params.toList ++ []) (ds ++ gs)).all (· ≤ reachBytes) = true) (hL : laidMetH Try.prog Rows.vecRowsRow.laid W) :
    Calls Try.prog 5 args W fun e W' => ∃ v, e = .returned v ∧ Rows.vecRowsSpec.post enc Try.prog Try.f5 false true false false W args v W' := by
  have hW' := hW
  obtain ⟨p, q, hA0, hV, rfl, hfz, hnd⟩ := hW
  have hA : DataW.TrodAll enc Try.prog W 0 (fun _ => true) true Try.f5.params.toList args.toList ds p := hA0
  rw [Try.params5] at hA hval hsz
  obtain ⟨rfl, rfl⟩ := trodVars_none hV
  have _hL := hL
  obtain ⟨v0, v1, d0, d1, p0, p1, rfl, rfl, rfl, h0, h1⟩ := trodAll_two hA
  obtain ⟨x1, rfl, rfl, rfl, w1⟩ := open_int Try.underlying3 (hval 1 3 v1 rfl rfl) h1
  obtain ⟨wv, xv, c, zs, L, rfl, hc, hz, _⟩ := matrix_of (hval 0 34 v0 rfl rfl) h0 hsz (j := 0) rfl rfl
  refine (walk wv xv zs c x1 W hz hc (i64_of w1)).mono fun e W' ⟨he, hk⟩ => ?_
  subst he
  exact ⟨_, rfl, post_law rfl (by kernel_rfl) (by kernel_rfl) hW' rfl hk⟩

set_option maxRecDepth 100000 in
theorem laid_met (os : Os) : laidMet Try.prog Rows.vecRowsRow.laid ((layIn (World.holding Try.prog os ⟨#[], #[], []⟩)).forCall (fun _ _ => 0) ⟨#[], #[.agg #[.slice none 0 0, .int .i64 0, .slice none 0 0], .int .i64 0], []⟩).memory :=
  laidMet_of_run' 8 (by kernel_rfl) (by kernel_rfl)
set_option maxRecDepth 100000 in
theorem reads (os : Os) {H : Type} (enc : TypeId × Value → H) : ∃ places, DataW.whole enc Try.prog ((layIn (World.holding Try.prog os ⟨#[], #[], []⟩)).forCall (fun _ _ => 0) ⟨#[], #[.agg #[.slice none 0 0, .int .i64 0, .slice none 0 0], .int .i64 0], []⟩).memory Try.f5.params.toList Rows.vecRowsSpec.vars false (#[.agg #[.slice none 0 0, .int .i64 0, .slice none 0 0], .int .i64 0] : Array Value).toList 8 = some ([.agg [.nil, .lit (.int .i64 0), .nil], .lit (.int .i64 0)], [], places) :=
  ⟨[], by kernel_rfl⟩

set_option maxRecDepth 100000 in
theorem lifted (os : Os) (started : os.Started) (H : Type) (enc : TypeId × Value → H) (F : Stop.Interp) :
    ReturnsInHanded {} Try.checked os 5 .any ((OpenSpec.ofChange Rows.vecRowsSpec).preRow enc Try.prog Try.f5 Rows.vecRowsRow.domain false Rows.vecRowsRow.laid) (((OpenSpec.ofChange Rows.vecRowsSpec).at F).post enc Try.prog Try.f5 false true false false) := by
  obtain ⟨places, hx⟩ := reads os enc
  refine returnsInHanded_of_row (C := Try.checked) (s := OpenSpec.ofChange Rows.vecRowsSpec) Try.own started (by kernel_rfl) Try.func5
    (witness_row_at (enc := enc) (C := Try.checked) false (layIn (World.holding Try.prog os ⟨#[], #[], []⟩)) #[.agg #[.slice none 0 0, .int .i64 0, .slice none 0 0], .int .i64 0] rfl (by kernel_rfl) (by kernel_rfl) (by kernel_rfl)
      (OpenSpec.preRow_of_cond 8 hx (by kernel_rfl) (fun k hk => by cases hk) (by kernel_rfl) (laid_met os))) ?_
  intro W base args ds gs before hval hW _ hc hsz hL _ _
  exact contract H enc W base args ds gs before hval hW hsz hL

theorem said : Rows.VecRowsSaid :=
  OpenClaim.holds_of_cond 5 Try.f5 rfl rfl rfl rfl rfl rfl rfl ⟨rfl, rfl, rfl, rfl, rfl⟩ rfl rfl rfl rfl rfl (by kernel_rfl) Try.func5 (by kernel_rfl)
    (of_decide_eq_true (by kernel_rfl)) (by unfold Func.isWrapper; first | (rw [if_pos (by decide +kernel)]; kernel_rfl) | (rw [if_neg (by decide +kernel)]; exact ⟨rfl, rfl⟩))
    (fun os started H enc _ F => by rw [OpenClaim.pre_eq_preRow]; exact lifted os started H enc F)


end Go.Proofs.Ytjffiojjjmecgaa.Rows8
namespace Go.Proofs.Ytjffiojjjmecgaa
theorem vecRows_holds : Rows.VecRowsSaid := Rows8.said
end Go.Proofs.Ytjffiojjjmecgaa
