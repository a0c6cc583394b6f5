/-
  For every list of int64 and every number the statement RankOrders answers true: awake does, Order and Top tell what the document says, and what is handed in stays.
-/
import Derived.Test.YtgemkmpepnaoiaaRkj
namespace Go.Proofs.Ytgemkmpepnaoiaa.Orders
open Go.ChangeShapes Go.WideShapes Go.ChangeAt Go.RowKit

set_option maxHeartbeats 1000000 in
set_option maxRecDepth 100000 in
theorem walk (rv : Value) (zs : List Int) (k : Int) (w : World) (hr : Rw (fun b => b < w.heap.size) w rv zs) (hk : I64 k) :
    Calls Try.prog 3 #[rv, zV k] w fun e w' => e = .returned (.bool true) ∧ Fresh w w' := by
  have HK : Hid (I64 k) := hk
  have hr0 := hr.fresh ((Kept.refl (fun _ => False) w).alloc (.cells #[] 2))
  obtain ⟨tv, W1, hrun, hown1, hgrow⟩ := twin64 22 _ w.heap.size _ (own64_empty w) (by simp) _ zs _ hr0
  have hk1 : Fresh w W1 := ((Kept.refl _ w).alloc _).grown hgrow (fun k hk e => by simp [Value.ownBlock] at e; omega)
  have htw := rw_of_own hown1 hr.len hr.all
  obtain ⟨tao, tcap, rfl⟩ := ownsRow_shape hown1
  have hr1 := hr.fresh hk1
  obtain ⟨ao, cap, rfl⟩ : ∃ ao cap, rv = .slice ao zs.length cap := by obtain ⟨ao, cap, h, _⟩ := hr; exact ⟨ao, cap, h⟩
  obtain ⟨n, hn⟩ : ∃ n, zs.length = n := ⟨_, rfl⟩
  have HR : Hid (∀ W, Fresh W1 W → Rw (fun b => b < W.heap.size) W (.slice ao n cap) zs) := fun W hF => by rw [← hn]; exact (hr1.fresh hF).mono (fun b hb => Nat.lt_of_lt_of_le hb (Nat.le_trans hk1.size hF.size))
  have HT : Hid (∀ W, Fresh W1 W → Rw (fun b => b < W1.heap.size) W (.slice tao n tcap) zs) := fun W hF => by rw [← hn]; exact (htw.fresh hF).mono (fun b hb => hb.2)
  have HF : Hid (Fresh w W1) := hk1
  rw [hn] at hrun ⊢
  clear hr hr0 hown1 hgrow htw hr1 hk1
  go_enter Try.func3, Try.ntmps3
  go_wp2_with (at_builtin; refine Lib.wpList_append_run _ rfl _ _ _ _ rfl _ _ rfl rfl _ _ hrun ?_)
  clear hrun
  refine (awake_any _).mono ?_
  rintro e W2 ⟨rfl, hF2⟩
  go_wp2_with fail
  refine (order_at _ zs _ (HR.out _ hF2)).mono ?_
  rintro e W3 ⟨v3, rfl, o3, hO3, hR3, hF3⟩
  have hF13 : Fresh W1 W3 := hF2.trans hF3 (fun _ _ e => e)
  clear hF2 hF3
  go_wp2_with fail
  refine (refOrder_at _ _ zs _ (HT.out _ hF13)).mono ?_
  rintro e W4 ⟨v4, rfl, o4, hO4, hR4, hF4⟩
  have hF14 : Fresh W1 W4 := hF13.trans hF4 (fun _ _ e => e)
  have e1 := hO4.unique hO3
  subst e1
  have hR3' := hR3.fresh hF4
  go_wp2_with fail
  refine (ints_any _ _ _ _ _ _ hR3' hR4).mono ?_
  rintro e W5 ⟨rfl, n5, rfl⟩
  have hF15 : Fresh W1 (W4.drewN n5) := hF14.drewN n5
  clear hR3 hR3' hR4 hF4 hF13 hF14 hO3 hO4
  go_wp2_with fail
  refine (top_at _ zs k _ (HR.out _ hF15) HK.out).mono ?_
  rintro e W6 ⟨v6, rfl, o6, hO6, hR6, hF6⟩
  have hF16 : Fresh W1 W6 := hF15.trans hF6 (fun _ _ e => e)
  go_wp2_with fail
  refine (refTop_at _ _ zs k _ (HT.out _ hF16) HK.out).mono ?_
  rintro e W7 ⟨v7, rfl, o7, hO7, hR7, hF7⟩
  have hF17 : Fresh W1 W7 := hF16.trans hF7 (fun _ _ e => e)
  have e2 := hO7.unique hO6
  subst e2
  have hR6' := hR6.fresh hF7
  go_wp2_with fail
  refine (ints_any _ _ _ _ _ _ hR6' hR7).mono ?_
  rintro e W8 ⟨rfl, n8, rfl⟩
  have hF18 : Fresh W1 (W7.drewN n8) := hF17.drewN n8
  clear hR6 hR6' hR7 hF7 hF6 hF15 hF16 hO6 hO7
  go_wp2_with fail
  refine (longs_any _ _ _ _ _ _ (HR.out _ hF18) (HT.out _ hF18)).mono ?_
  rintro e W9 ⟨rfl, n9, rfl⟩
  have HE : Hid (Fresh w (W7.drewN (n8 + n9))) := HF.out.trans (hF17.drewN (n8 + n9)) (fun _ _ e => e)
  clear hF18 HR HT hF17
  go_wp2
  go_ret
  exact ⟨rfl, HE.out⟩

set_option maxRecDepth 100000 in
theorem contract (H : Type) (enc : TypeId × Value → H) (W : World) (base : Nat) (args : Array Value) (ds gs : List (DataW H)) (before : List MemPlace)
    (hval : ∀ (j : Nat) t v, Try.f3.params[j]? = some t → args[j]? = some v → Value.okWide Try.prog W .any base t v)
    (hW : DataW.Whole enc Try.prog Try.f3.params.toList Rows.rankOrdersSpec.vars false W args.toList ds gs before) 
    (hsz : (DataW.weightsEach Try.prog (Try.f3.params.toList ++ []) (ds ++ gs)).all (· ≤ reachBytes) = true) (hL : laidMetH Try.prog Rows.rankOrdersRow.laid W) :
    Calls Try.prog 3 args W fun e W' => ∃ v, e = .returned v ∧ Rows.rankOrdersSpec.post enc Try.prog Try.f3 false true false false W args v W' := by
  have hW' := hW
  obtain ⟨p, q, hA0, hV, rfl, hfz, hnd⟩ := hW
  have hA : DataW.TrodAll enc Try.prog W 0 (fun _ => true) true Try.f3.params.toList args.toList ds p := hA0
  rw [Try.params3] at hA hval hsz
  obtain ⟨rfl, rfl⟩ := trodVars_none hV
  have _hL := hL
  obtain ⟨v0, v1, d0, d1, p0, p1, rfl, rfl, rfl, h0, h1⟩ := trodAll_two hA
  obtain ⟨ao, ln, cap, rfl⟩ := okWide_slice Try.underlying22 (hval 0 22 v0 rfl rfl)
  obtain ⟨x1, rfl, rfl, rfl, w1⟩ := open_int Try.underlying3 (hval 1 3 v1 rfl rfl) h1
  obtain ⟨fuel, hf⟩ := h0
  obtain ⟨zs, hr, _⟩ := rw_of (x := (d0, _)) hf (fun es sp e => by
    have e' : d0 = .slice es sp := e
    subst e'
    have := sized_slice hsz (j := 0) (t := 22) (e := 2) rfl rfl Try.underlying22
    rw [Try.b64] at this
    simp only [reachBytes] at this
    omega)
  refine (walk _ zs x1 W hr (i64_of w1)).mono fun e W' ⟨he, hk⟩ => ?_
  subst he
  exact ⟨_, rfl, post_law rfl (by kernel_rfl) (by kernel_rfl) hW' rfl hk⟩

set_option maxRecDepth 100000 in
theorem laid_met (os : Os) : laidMet Try.prog Rows.rankOrdersRow.laid ((layIn (World.holding Try.prog os ⟨#[], #[], []⟩)).forCall (fun _ _ => 0) ⟨#[], #[.slice none 0 0, .int .i64 0], []⟩).memory :=
  laidMet_of_run' 8 (by kernel_rfl) (by kernel_rfl)
set_option maxRecDepth 100000 in
theorem reads (os : Os) {H : Type} (enc : TypeId × Value → H) : ∃ places, DataW.whole enc Try.prog ((layIn (World.holding Try.prog os ⟨#[], #[], []⟩)).forCall (fun _ _ => 0) ⟨#[], #[.slice none 0 0, .int .i64 0], []⟩).memory Try.f3.params.toList Rows.rankOrdersSpec.vars false (#[.slice none 0 0, .int .i64 0] : Array Value).toList 8 = some ([.nil, .lit (.int .i64 0)], [], places) :=
  ⟨[], by kernel_rfl⟩

set_option maxRecDepth 100000 in
theorem lifted (os : Os) (started : os.Started) (H : Type) (enc : TypeId × Value → H) (F : Stop.Interp) :
    ReturnsInHanded {} Try.checked os 3 .any ((OpenSpec.ofChange Rows.rankOrdersSpec).preRow enc Try.prog Try.f3 Rows.rankOrdersRow.domain false Rows.rankOrdersRow.laid) (((OpenSpec.ofChange Rows.rankOrdersSpec).at F).post enc Try.prog Try.f3 false true false false) := by
  obtain ⟨places, hx⟩ := reads os enc
  refine returnsInHanded_of_row (C := Try.checked) (s := OpenSpec.ofChange Rows.rankOrdersSpec) Try.own started (by kernel_rfl) Try.func3
    (witness_row_at (enc := enc) (C := Try.checked) false (layIn (World.holding Try.prog os ⟨#[], #[], []⟩)) #[.slice none 0 0, .int .i64 0] rfl (by kernel_rfl) (by kernel_rfl) (by kernel_rfl)
      (OpenSpec.preRow_of_cond 8 hx (by kernel_rfl) (fun k hk => by cases hk) (by kernel_rfl) (laid_met os))) ?_
  intro W base args ds gs before hval hW _ hc hsz hL _ _
  exact contract H enc W base args ds gs before hval hW hsz hL

theorem said : Rows.RankOrdersSaid :=
  OpenClaim.holds_of_cond 3 Try.f3 rfl rfl rfl rfl rfl rfl rfl ⟨rfl, rfl, rfl, rfl, rfl⟩ rfl rfl rfl rfl rfl (by kernel_rfl) Try.func3 (by kernel_rfl)
    (of_decide_eq_true (by kernel_rfl)) (by unfold Func.isWrapper; first | (rw [if_pos (by decide +kernel)]; kernel_rfl) | (rw [if_neg (by decide +kernel)]; exact ⟨rfl, rfl⟩))
    (fun os started H enc _ F => by rw [OpenClaim.pre_eq_preRow]; exact lifted os started H enc F)


end Go.Proofs.Ytgemkmpepnaoiaa.Orders
namespace Go.Proofs.Ytgemkmpepnaoiaa
theorem rankOrders_holds : Rows.RankOrdersSaid := Orders.said
end Go.Proofs.Ytgemkmpepnaoiaa
