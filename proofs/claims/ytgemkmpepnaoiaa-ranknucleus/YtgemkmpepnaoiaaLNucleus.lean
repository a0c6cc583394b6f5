/-
  For every list of int64 and every number the statement RankNucleus answers true: awake does, Nucleus tells what the document says, and what is handed in stays.
-/
import Derived.Test.YtgemkmpepnaoiaaRkl
namespace Go.Proofs.Ytgemkmpepnaoiaa.Nucl
open Go.ChangeShapes Go.WideShapes Go.ChangeAt Go.RowKit

set_option maxHeartbeats 1000000 in
set_option maxRecDepth 100000 in
theorem walk (rv : Value) (zs : List Int) (T : Int) (w : World) (hr : Rw (fun b => b < w.heap.size) w rv zs) (hT : I64 T) :
    Calls Try.prog 7 #[rv, zV T] w fun e w' => e = .returned (.bool true) ∧ Fresh w w' := by
  have HT' : Hid (I64 T) := hT
  have hr0 := hr.fresh ((Kept.refl (fun _ => False) w).alloc (.cells #[] 2))
  obtain ⟨tv, W1, hrun, hown1, hgrow⟩ := twin64 22 _ w.heap.size _ (own64_empty w) (by simp) _ zs _ hr0
  have hk1 : Fresh w W1 := ((Kept.refl _ w).alloc _).grown hgrow (fun k hk e => by simp [Value.ownBlock] at e; omega)
  have htw := rw_of_own hown1 hr.len hr.all
  obtain ⟨tao, tcap, rfl⟩ := ownsRow_shape hown1
  have hr1 := hr.fresh hk1
  obtain ⟨ao, cap, rfl⟩ : ∃ ao cap, rv = .slice ao zs.length cap := by obtain ⟨ao, cap, h, _⟩ := hr; exact ⟨ao, cap, h⟩
  obtain ⟨n, hn⟩ : ∃ n, zs.length = n := ⟨_, rfl⟩
  have HR : Hid (∀ W, Fresh W1 W → Rw (fun b => b < W.heap.size) W (.slice ao n cap) zs) := fun W hF => by rw [← hn]; exact (hr1.fresh hF).mono (fun b hb => Nat.lt_of_lt_of_le hb (Nat.le_trans hk1.size hF.size))
  have HT : Hid (∀ W, Fresh W1 W → Rw (fun b => b < W1.heap.size) W (.slice tao n tcap) zs) := fun W hF => by rw [← hn]; exact (htw.fresh hF).mono (fun b hb => hb.2)
  have HF : Hid (Fresh w W1) := hk1
  rw [hn] at hrun ⊢
  clear hr hr0 hown1 hgrow htw hr1 hk1
  go_enter Try.func7, Try.ntmps7
  go_wp2_with (at_builtin; refine Lib.wpList_append_run _ rfl _ _ _ _ rfl _ _ rfl rfl _ _ hrun ?_)
  clear hrun
  have hF1 : Fresh W1 W1 := Kept.refl _ _
  refine (nucleus_any _ zs T _ (HR.out _ hF1) HT'.out).mono ?_
  rintro e W2 ⟨v2, rfl, L, hL, hR2, hF2⟩
  go_wp2_with fail
  refine (refNucleus_any _ _ zs T _ (HT.out _ hF2) HT'.out).mono ?_
  rintro e W3 ⟨v3, rfl, L3, hL3, hR3, hF3⟩
  have e1 := hL3.unique hL
  subst e1
  have hR2' := hR2.fresh hF3
  have hF13 : Fresh W1 W3 := hF2.trans hF3 (fun _ _ e => e)
  clear hR2 hF2 hF3
  go_wp2_with fail
  refine (awake_any _).mono ?_
  rintro e W4 ⟨rfl, hF4⟩
  have hF14 : Fresh W1 W4 := hF13.trans hF4 (fun _ _ e => e)
  have hR2'' := hR2'.fresh hF4
  have hR3' := hR3.fresh hF4
  obtain ⟨a2, c2, h2, _⟩ := id hR2''
  obtain ⟨a3, c3, h3, _⟩ := id hR3'
  subst h2
  subst h3
  go_wp2_with fail
  refine (ints_any _ _ _ _ _ _ hR2'' hR3').mono ?_
  rintro e W5 ⟨rfl, n5, rfl⟩
  have hF15 : Fresh W1 (W4.drewN n5) := hF14.drewN n5
  clear hR2' hR2'' hR3 hR3' hF13 hF4 hL3 hL
  generalize nE zs T = E at *
  generalize L3.length = l3 at *
  go_wp2_with fail
  refine (longs_any _ _ _ _ _ _ (HR.out _ hF15) (HT.out _ hF15)).mono ?_
  rintro e W6 ⟨rfl, n6, rfl⟩
  have HE : Hid (Fresh w (W4.drewN (n5 + n6))) := HF.out.trans (hF14.drewN (n5 + n6)) (fun _ _ e => e)
  clear hF15 hF14 HR HT
  go_wp2
  go_ret
  exact ⟨by simp, HE.out⟩

set_option maxRecDepth 100000 in
theorem contract (H : Type) (enc : TypeId × Value → H) (W : World) (base : Nat) (args : Array Value) (ds gs : List (DataW H)) (before : List MemPlace)
    (hval : ∀ (j : Nat) t v, Try.f7.params[j]? = some t → args[j]? = some v → Value.okWide Try.prog W .any base t v)
    (hW : DataW.Whole enc Try.prog Try.f7.params.toList Rows.rankNucleusSpec.vars false W args.toList ds gs before) 
    (hsz : (DataW.weightsEach Try.prog (Try.f7.params.toList ++ []) (ds ++ gs)).all (· ≤ reachBytes) = true) (hL : laidMetH Try.prog Rows.rankNucleusRow.laid W) :
    Calls Try.prog 7 args W fun e W' => ∃ v, e = .returned v ∧ Rows.rankNucleusSpec.post enc Try.prog Try.f7 false true false false W args v W' := by
  have hW' := hW
  obtain ⟨p, q, hA0, hV, rfl, hfz, hnd⟩ := hW
  have hA : DataW.TrodAll enc Try.prog W 0 (fun _ => true) true Try.f7.params.toList args.toList ds p := hA0
  rw [Try.params7] at hA hval hsz
  obtain ⟨rfl, rfl⟩ := trodVars_none hV
  have _hL := hL
  obtain ⟨v0, v1, d0, d1, p0, p1, rfl, rfl, rfl, h0, h1⟩ := trodAll_two hA
  obtain ⟨ao, ln, cap, rfl⟩ := okWide_slice Try.underlying22 (hval 0 22 v0 rfl rfl)
  obtain ⟨x1, rfl, rfl, rfl, w1⟩ := open_int Try.underlying3 (hval 1 3 v1 rfl rfl) h1
  obtain ⟨fuel, hf⟩ := h0
  obtain ⟨zs, hr, _⟩ := rw_of (x := (d0, _)) hf (fun es sp e => by
    have e' : d0 = .slice es sp := e
    subst e'
    have := sized_slice hsz (j := 0) (t := 22) (e := 2) rfl rfl Try.underlying22
    rw [Try.b64] at this
    simp only [reachBytes] at this
    omega)
  refine (walk _ zs x1 W hr (i64_of w1)).mono fun e W' ⟨he, hk⟩ => ?_
  subst he
  exact ⟨_, rfl, post_law rfl (by kernel_rfl) (by kernel_rfl) hW' rfl hk⟩

set_option maxRecDepth 100000 in
theorem laid_met (os : Os) : laidMet Try.prog Rows.rankNucleusRow.laid ((layIn (World.holding Try.prog os ⟨#[], #[], []⟩)).forCall (fun _ _ => 0) ⟨#[], #[.slice none 0 0, .int .i64 0], []⟩).memory :=
  laidMet_of_run' 8 (by kernel_rfl) (by kernel_rfl)
set_option maxRecDepth 100000 in
theorem reads (os : Os) {H : Type} (enc : TypeId × Value → H) : ∃ places, DataW.whole enc Try.prog ((layIn (World.holding Try.prog os ⟨#[], #[], []⟩)).forCall (fun _ _ => 0) ⟨#[], #[.slice none 0 0, .int .i64 0], []⟩).memory Try.f7.params.toList Rows.rankNucleusSpec.vars false (#[.slice none 0 0, .int .i64 0] : Array Value).toList 8 = some ([.nil, .lit (.int .i64 0)], [], places) :=
  ⟨[], by kernel_rfl⟩

set_option maxRecDepth 100000 in
theorem lifted (os : Os) (started : os.Started) (H : Type) (enc : TypeId × Value → H) (F : Stop.Interp) :
    ReturnsInHanded {} Try.checked os 7 .any ((OpenSpec.ofChange Rows.rankNucleusSpec).preRow enc Try.prog Try.f7 Rows.rankNucleusRow.domain false Rows.rankNucleusRow.laid) (((OpenSpec.ofChange Rows.rankNucleusSpec).at F).post enc Try.prog Try.f7 false true false false) := by
  obtain ⟨places, hx⟩ := reads os enc
  refine returnsInHanded_of_row (C := Try.checked) (s := OpenSpec.ofChange Rows.rankNucleusSpec) Try.own started (by kernel_rfl) Try.func7
    (witness_row_at (enc := enc) (C := Try.checked) false (layIn (World.holding Try.prog os ⟨#[], #[], []⟩)) #[.slice none 0 0, .int .i64 0] rfl (by kernel_rfl) (by kernel_rfl) (by kernel_rfl)
      (OpenSpec.preRow_of_cond 8 hx (by kernel_rfl) (fun k hk => by cases hk) (by kernel_rfl) (laid_met os))) ?_
  intro W base args ds gs before hval hW _ hc hsz hL _ _
  exact contract H enc W base args ds gs before hval hW hsz hL

theorem said : Rows.RankNucleusSaid :=
  OpenClaim.holds_of_cond 7 Try.f7 rfl rfl rfl rfl rfl rfl rfl ⟨rfl, rfl, rfl, rfl, rfl⟩ rfl rfl rfl rfl rfl (by kernel_rfl) Try.func7 (by kernel_rfl)
    (of_decide_eq_true (by kernel_rfl)) (by unfold Func.isWrapper; first | (rw [if_pos (by decide +kernel)]; kernel_rfl) | (rw [if_neg (by decide +kernel)]; exact ⟨rfl, rfl⟩))
    (fun os started H enc _ F => by rw [OpenClaim.pre_eq_preRow]; exact lifted os started H enc F)


end Go.Proofs.Ytgemkmpepnaoiaa.Nucl
namespace Go.Proofs.Ytgemkmpepnaoiaa
theorem rankNucleus_holds : Rows.RankNucleusSaid := Nucl.said
end Go.Proofs.Ytgemkmpepnaoiaa
