/-
  For every guide, state and text the statement GuideWalks answers true: both tell where the text leads, and whether it is accepted; awake does; the guide is as it was.
-/
import Derived.Test.YtomafgpmiidhlaaGuy
import Derived.Test.YtomafgpmiidhlaaRgo
namespace Go.Proofs.Ytomafgpmiidhlaa.GWalks
open Go.ChangeShapes Go.WideShapes Go.ChangeAt Go.RowKit Go.Lib Go.Maps

theorem ac_empty {A : List Bool} {E : List Ed} (h : A.length = 0) (h0 : chE A E = 0) (l : List UInt8) : acF A E l = true := by
  unfold acF
  rw [decide_eq_true h0, wk_loop h, (mF_empty (E := E) h).1]
  rfl
set_option maxHeartbeats 500000 in
set_option maxRecDepth 100000 in
theorem raccept_any {p q : Nat → Prop} (A : List Bool) (E : List Ed) (an en : Value) (w : World) (hA : RbL p w an A) (hE : EdR q w en E) (t : ByteArray) (ht : t.size ≤ 9223372036854775000) :
    Calls Try.prog 19 #[.agg #[an, en], .string t] w fun e w' => e = .returned (.bool (acF A E t.data.toList)) ∧ Fresh w w' := by
  have hF1 : Fresh w (w.alloc (.cells #[an, en] 28)) := (Kept.refl _ w).alloc _
  have HC := show Hid _ from rcheck_any A E an en _ (hA.fresh hF1) (hE.fresh hF1)
  have HX : Hid (∀ X, Fresh (w.alloc (.cells #[an, en] 28)) X → Fresh w X ∧ RbL p X an A ∧ X.cell? ⟨w.heap.size, 0, none⟩ = some an ∧ X.cell? ⟨w.heap.size, 1, none⟩ = some en) := fun X hk => by
    have h1 := hk.at (heap_alloc_new w (.cells #[an, en] 28)) (fun e => e)
    have h2 := hF1.trans hk (fun _ _ e => e)
    exact ⟨h2, hA.fresh h2, by rw [Lib.cell_of_heap h1]; rfl, by rw [Lib.cell_of_heap h1]; rfl⟩
  have HW : Hid (∀ X, Fresh w X → Calls Try.prog 17 #[.agg #[an, en], .int .i64 0, .string t] X fun e w' => e = .returned (zV (wlF A E 0 t.data.toList)) ∧ Fresh X w') := fun X hX => rwalk_any A E an en X (hA.fresh hX) (hE.fresh hX) 0 t ht
  obtain ⟨ao, ac, rfl⟩ := hA.shape
  obtain ⟨eo, ec, rfl⟩ := hE.shape
  clear hA hE hF1
  have HZ1 : Hid (chE A E ≠ 0 → acF A E t.data.toList = false) := fun h => by show _ = _; unfold acF; rw [decide_eq_false h]; rfl
  have HZ2 : Hid (chE A E = 0 → A.length = 0 → acF A E t.data.toList = true) := fun h h2 => ac_empty h2 h _
  have HZ3 : Hid (chE A E = 0 → 0 < A.length → acF A E t.data.toList = (decide (0 ≤ wlF A E 0 t.data.toList) && A.getD (wlF A E 0 t.data.toList).toNat false) ∧ wlF A E 0 t.data.toList < (A.length : Int)) := fun h h2 => by
    obtain ⟨e1, e2⟩ := mF_some (E := E) h2
    have e3 : wlF A E 0 t.data.toList = wkF (mF A E) 0 t.data.toList := if_pos ⟨h, Int.le_refl _, by rw [e1]; omega⟩
    have hr := wkF_range (mF_range (chE_zero h).2.2.1) t.data.toList 0 (.inr ⟨Int.le_refl _, by rw [e1]; omega⟩)
    rw [e1] at hr
    unfold acF
    rw [decide_eq_true h, e1, e3]
    exact ⟨rfl, by omega⟩
  generalize acF A E t.data.toList = Z at *
  generalize wlF A E 0 t.data.toList = x at *
  generalize chE A E = ce at *
  generalize chP A E = cp at *
  generalize hn : A.length = n at *
  generalize E.length = k at *
  clear hn
  go_enter Try.func19, Try.ntmps19
  go_wp2_with fail
  refine Calls.mono HC.out ?_
  generalize w.alloc (.cells #[.slice ao n ac, .slice eo k ec] 28) = W1 at *
  rintro e X ⟨rfl, hf⟩
  have HF : Hid (Fresh W1 X) := hf
  obtain ⟨hfw, _, x0, x1⟩ := HX.out X hf
  have HFw := show Hid _ from hfw
  clear hf HC hfw
  by_cases hc : ce = 0
  · subst hc
    rcases Nat.eq_zero_or_pos n with h0 | h0
    · have HZ : Hid (Z = true) := HZ2.out rfl h0
      subst h0
      clear HZ1 HZ2 HZ3
      go_wp2
      go_ret
      exact ⟨by rw [HZ.out]; rfl, HFw.out⟩
    · have hn0 : ((n : Int) == 0) = false := beq_eq_false_iff_ne.2 (by omega)
      have hz := HZ3.out rfl h0
      have HZ := show Hid _ from hz.1
      have HXN := show Hid _ from hz.2
      have HWK := show Hid _ from HW.out X HFw.out
      clear HZ1 HZ2 HZ3 hz HW
      go_wp2_with fail
      refine Calls.mono HWK.out ?_
      rintro e X2 ⟨rfl, hf2⟩
      obtain ⟨hfw2, hA2, x0, x1⟩ := HX.out X2 (HF.out.trans hf2 (fun _ _ e => e))
      have HF2 := show Hid _ from hfw2
      clear hf2 hfw2 HWK HF
      by_cases hx : 0 ≤ x
      · obtain ⟨y, rfl⟩ : ∃ y : Nat, x = (y : Int) := ⟨x.toNat, by omega⟩
        have hyn : y < n := by have := HXN.out; omega
        obtain ⟨bb, off, rfl, _, _, hcell⟩ := hA2.cells h0
        have c0 := hcell y hyn
        have HZy : Hid (Z = A.getD y false) := by
          have := HZ.out
          rw [decide_eq_true hx, Int.toNat_natCast] at this
          exact this
        have hyn' : (y : Int) < (n : Int) := by omega
        clear hA2 hcell HZ HXN HX
        generalize A.getD y false = z at *
        go_wp2
        go_ret
        exact ⟨by rw [HZy.out]; rfl, HF2.out⟩
      · have HZy : Hid (Z = false) := by
          have := HZ.out
          rw [decide_eq_false hx] at this
          exact this
        clear HZ HXN hA2 HX
        go_wp2
        go_ret
        exact ⟨by rw [HZy.out]; rfl, HF2.out⟩
  · have HZ : Hid (Z = false) := HZ1.out hc
    have hcc : ((ce : Int) != 0) = true := bne_iff_ne.2 (by omega)
    clear HZ1 HZ2 HZ3 hc
    go_wp2
    go_ret
    exact ⟨by rw [HZ.out]; rfl, HFw.out⟩
set_option maxHeartbeats 500000 in
set_option maxRecDepth 100000 in
theorem walk {p : Nat → Prop} (w : World) (acv edv : Value) (A : List Bool) (E : List Ed) (hA : RbL p w acv A) (hE : EdR p w edv E) (s : Int) (t : ByteArray) (ht : t.size ≤ 9223372036854775000) :
    Calls Try.prog 4 #[.agg #[acv, edv], zV s, .string t] w fun e w' => e = .returned (.bool true) ∧ Fresh w w' := by
  have hF1 : Fresh w (w.alloc (.cells #[acv, edv] 25)) := (Kept.refl _ w).alloc _
  have HX : Hid (∀ X, Fresh (w.alloc (.cells #[acv, edv] 25)) X → Fresh w X ∧ RbL p X acv A ∧ EdR p X edv E ∧ X.cell? ⟨w.heap.size, 0, none⟩ = some acv ∧ X.cell? ⟨w.heap.size, 1, none⟩ = some edv) := fun X hk => by
    have h1 := hk.at (heap_alloc_new w (.cells #[acv, edv] 25)) (fun e => e)
    have h2 := hF1.trans hk (fun _ _ e => e)
    exact ⟨h2, hA.fresh h2, hE.fresh h2, by rw [Lib.cell_of_heap h1]; rfl, by rw [Lib.cell_of_heap h1]; rfl⟩
  obtain ⟨ao, ac, rfl⟩ := hA.shape
  obtain ⟨eo, ec, rfl⟩ := hE.shape
  obtain ⟨_, hA1, hE1, _⟩ := HX.out _ (Kept.refl _ _)
  have HGV := show Hid _ from givenG_any _ _ _ A E hA1 hE1
  clear hA hE hF1 hA1 hE1
  obtain ⟨n, hn⟩ : ∃ n, n = A.length := ⟨_, rfl⟩
  obtain ⟨k, hk⟩ : ∃ k, k = E.length := ⟨_, rfl⟩
  rw [← hn, ← hk] at HX HGV
  rw [← hn, ← hk]
  have HN : Hid (n = A.length) := hn
  have HK : Hid (k = E.length) := hk
  clear hn hk
  go_enter Try.func4, Try.ntmps4
  go_wp2_with fail
  refine Calls.mono HGV.out ?_
  generalize w.alloc (.cells #[.slice ao n ac, .slice eo k ec] 25) = W1 at *
  rintro e W2 ⟨tn, en, rfl, hT, hM, hf2⟩
  have hF3 : Fresh W2 (W2.alloc (.cells #[tn, en] 28)) := (Kept.refl _ W2).alloc _
  obtain ⟨to1, tc, rfl⟩ := hT.shape
  obtain ⟨eo2, ec2, rfl⟩ := hM.shape
  rw [← HN.out] at hT
  rw [← HK.out] at hM
  rw [← HN.out, ← HK.out] at hF3
  have HY : Hid (∀ X, Fresh (W2.alloc (.cells #[.slice to1 n tc, .slice eo2 k ec2] 28)) X → Fresh W1 X ∧ RbL (fun _ => True) X (.slice to1 n tc) A ∧ EdR (fun _ => True) X (.slice eo2 k ec2) E ∧ X.cell? ⟨W2.heap.size, 0, none⟩ = some (.slice to1 n tc) ∧ X.cell? ⟨W2.heap.size, 1, none⟩ = some (.slice eo2 k ec2)) := fun X hk => by
    have h1 := hk.at (heap_alloc_new W2 (.cells #[.slice to1 n tc, .slice eo2 k ec2] 28)) (fun e => e)
    have h2 := hF3.trans hk (fun _ _ e => e)
    exact ⟨hf2.trans h2 (fun _ _ e => e), (hT.fresh h2).mono (fun _ _ => trivial), (hM.fresh h2).mono (fun _ _ => trivial), by rw [Lib.cell_of_heap h1]; rfl, by rw [Lib.cell_of_heap h1]; rfl⟩
  rw [← HN.out, ← HK.out]
  clear hT hM hF3 hf2 HGV
  go_upto_region 2 with fail
  generalize W2.alloc (.cells #[.slice to1 n tc, .slice eo2 k ec2] 28) = W3 at *
  generalize W2.heap.size = gb at *
  have u0 : ∀ d : Nw W3, d.w.cell? ⟨w.heap.size, 0, none⟩ = some (.slice ao n ac) := fun d => (HX.out d.w (HY.out d.w d.f).1).2.2.2.1
  have u1 : ∀ d : Nw W3, d.w.cell? ⟨w.heap.size, 1, none⟩ = some (.slice eo k ec) := fun d => (HX.out d.w (HY.out d.w d.f).1).2.2.2.2
  have v0 : ∀ d : Nw W3, d.w.cell? ⟨gb, 0, none⟩ = some (.slice to1 n tc) := fun d => (HY.out d.w d.f).2.2.2.1
  have v1 : ∀ d : Nw W3, d.w.cell? ⟨gb, 1, none⟩ = some (.slice eo2 k ec2) := fun d => (HY.out d.w d.f).2.2.2.2
  have K0 : Hid (∀ d : Nw W3, Calls Try.prog 14 #[] d.w fun e w' => e = .returned (.bool true) ∧ Fresh d.w w') := fun d => awakeG_any d.w
  have K1 : Hid (∀ d : Nw W3, Calls Try.prog 16 #[.agg #[.slice ao n ac, .slice eo k ec], zV s, .string t] d.w fun e w' => e = .returned (zV (wlF A E s t.data.toList)) ∧ Fresh d.w w') := fun d => by
    obtain ⟨h1, _⟩ := HY.out d.w d.f
    obtain ⟨_, h2, h3, _⟩ := HX.out d.w h1
    exact walk_any A E _ _ d.w h2 h3 s t ht
  have K2 : Hid (∀ d : Nw W3, Calls Try.prog 17 #[.agg #[.slice to1 n tc, .slice eo2 k ec2], zV s, .string t] d.w fun e w' => e = .returned (zV (wlF A E s t.data.toList)) ∧ Fresh d.w w') := fun d => by
    obtain ⟨_, h2, h3, _⟩ := HY.out d.w d.f
    exact rwalk_any A E _ _ d.w h2 h3 s t ht
  have K3 : Hid (∀ d : Nw W3, Calls Try.prog 18 #[.agg #[.slice ao n ac, .slice eo k ec], .string t] d.w fun e w' => e = .returned (.bool (acF A E t.data.toList)) ∧ Fresh d.w w') := fun d => by
    obtain ⟨h1, _⟩ := HY.out d.w d.f
    obtain ⟨_, h2, h3, _⟩ := HX.out d.w h1
    exact accept_any A E _ _ d.w h2 h3 t ht
  have K4 : Hid (∀ d : Nw W3, Calls Try.prog 19 #[.agg #[.slice to1 n tc, .slice eo2 k ec2], .string t] d.w fun e w' => e = .returned (.bool (acF A E t.data.toList)) ∧ Fresh d.w w') := fun d => by
    obtain ⟨_, h2, h3, _⟩ := HY.out d.w d.f
    exact raccept_any A E _ _ d.w h2 h3 t ht
  have HFW : Hid (∀ d : Nw W3, Fresh w d.w) := fun d => (HX.out d.w (HY.out d.w d.f).1).1
  clear HX HY HN HK
  generalize wlF A E s t.data.toList = z at *
  generalize acF A E t.data.toList = y at *
  have hzz : (z == z) = true := beq_self_eq_true _
  have hyy : (y == y) = true := beq_self_eq_true _
  haveI : Nonempty (Nw W3) := nw_some W3
  refine wp_region_new (by kernel_rfl) (by kernel_rfl) ?_
  repeat (go_big_quiet_step ((first | (with_reducible exact Calls.new_of (K0.out _)) | (with_reducible exact Calls.new_of (K1.out _)) | (with_reducible exact Calls.new_of (K2.out _)) | (with_reducible exact Calls.new_of (K3.out _)) | (with_reducible exact Calls.new_of (K4.out _)))))
  refine wpQuiet_nil ?_
  intro _ hw'
  obtain ⟨dq, hw''⟩ := hw'
  subst hw''
  go_wp2
  go_ret
  exact ⟨rfl, HFW.out dq⟩

set_option maxRecDepth 100000 in
theorem contract (H : Type) (enc : TypeId × Value → H) (W : World) (base : Nat) (args : Array Value) (ds gs : List (DataW H)) (before : List MemPlace)
    (hval : ∀ (j : Nat) t v, Try.f4.params[j]? = some t → args[j]? = some v → Value.okWide Try.prog W .any base t v)
    (hW : DataW.Whole enc Try.prog Try.f4.params.toList Rows.guideWalksSpec.vars false W args.toList ds gs before) 
    (hsz : (DataW.weightsEach Try.prog (Try.f4.params.toList ++ []) (ds ++ gs)).all (· ≤ reachBytes) = true) (hL : laidMetH Try.prog Rows.guideWalksRow.laid W) :
    Calls Try.prog 4 args W fun e W' => ∃ v, e = .returned v ∧ Rows.guideWalksSpec.post enc Try.prog Try.f4 false true false false W args v W' := by
  have hW' := hW
  obtain ⟨p, q, hA0, hV, rfl, hfz, hnd⟩ := hW
  have hA : DataW.TrodAll enc Try.prog W 0 (fun _ => true) true Try.f4.params.toList args.toList ds p := hA0
  rw [Try.params4] at hA hval hsz
  obtain ⟨rfl, rfl⟩ := trodVars_none hV
  have _hL := hL
  obtain ⟨v0, v1, v2, d0, d1, d2, p0, p1, p2, rfl, rfl, rfl, h0, h1, h2⟩ := trodAll_three hA
  obtain ⟨acv, edv, A, E, rfl, hA', hE'⟩ := guide_of (hval 0 25 v0 rfl rfl) h0 hsz (j := 0) rfl rfl
  obtain ⟨x1, rfl, rfl, rfl, w1⟩ := open_int Try.underlying3 (hval 1 3 v1 rfl rfl) h1
  obtain ⟨t, rfl, rfl, rfl, hs⟩ := Go.ChangeMaps.open_string Try.underlying9 (hval 2 9 v2 rfl rfl) h2
  have ht := sized_string hsz (j := 2) (t := 9) rfl rfl
  rw [← Lib.size_eq] at ht
  simp only [reachBytes] at ht
  refine (walk W acv edv A E hA' hE' x1 t (by omega)).mono fun e W' ⟨he, hk⟩ => ?_
  subst he
  exact ⟨_, rfl, post_law rfl (by kernel_rfl) (by kernel_rfl) hW' rfl hk⟩

set_option maxRecDepth 100000 in
theorem laid_met (os : Os) : laidMet Try.prog Rows.guideWalksRow.laid ((layIn (World.holding Try.prog os ⟨#[], #[], []⟩)).forCall (fun _ _ => 0) ⟨#[], #[.agg #[.slice none 0 0, .slice none 0 0], .int .i64 0, .string ⟨#[]⟩], []⟩).memory :=
  laidMet_of_run' 8 (by kernel_rfl) (by kernel_rfl)
set_option maxRecDepth 100000 in
theorem reads (os : Os) {H : Type} (enc : TypeId × Value → H) : ∃ places, DataW.whole enc Try.prog ((layIn (World.holding Try.prog os ⟨#[], #[], []⟩)).forCall (fun _ _ => 0) ⟨#[], #[.agg #[.slice none 0 0, .slice none 0 0], .int .i64 0, .string ⟨#[]⟩], []⟩).memory Try.f4.params.toList Rows.guideWalksSpec.vars false (#[.agg #[.slice none 0 0, .slice none 0 0], .int .i64 0, .string ⟨#[]⟩] : Array Value).toList 8 = some ([.agg [.nil, .nil], .lit (.int .i64 0), .lit (.string [])], [], places) :=
  ⟨[], by kernel_rfl⟩

set_option maxRecDepth 100000 in
theorem lifted (os : Os) (started : os.Started) (H : Type) (enc : TypeId × Value → H) (F : Stop.Interp) :
    ReturnsInHanded {} Try.checked os 4 .any ((OpenSpec.ofChange Rows.guideWalksSpec).preRow enc Try.prog Try.f4 Rows.guideWalksRow.domain false Rows.guideWalksRow.laid) (((OpenSpec.ofChange Rows.guideWalksSpec).at F).post enc Try.prog Try.f4 false true false false) := by
  obtain ⟨places, hx⟩ := reads os enc
  refine returnsInHanded_of_row (C := Try.checked) (s := OpenSpec.ofChange Rows.guideWalksSpec) Try.own started (by kernel_rfl) Try.func4
    (witness_row_at (enc := enc) (C := Try.checked) false (layIn (World.holding Try.prog os ⟨#[], #[], []⟩)) #[.agg #[.slice none 0 0, .slice none 0 0], .int .i64 0, .string ⟨#[]⟩] rfl (by kernel_rfl) (by kernel_rfl) (by kernel_rfl)
      (OpenSpec.preRow_of_cond 8 hx (by kernel_rfl) (fun k hk => by cases hk) (by kernel_rfl) (laid_met os))) ?_
  intro W base args ds gs before hval hW _ hc hsz hL _ _
  exact contract H enc W base args ds gs before hval hW hsz hL

theorem said : Rows.GuideWalksSaid :=
  OpenClaim.holds_of_cond 4 Try.f4 rfl rfl rfl rfl rfl rfl rfl ⟨rfl, rfl, rfl, rfl, rfl⟩ rfl rfl rfl rfl rfl (by kernel_rfl) Try.func4 (by kernel_rfl)
    (of_decide_eq_true (by kernel_rfl)) (by unfold Func.isWrapper; first | (rw [if_pos (by decide +kernel)]; kernel_rfl) | (rw [if_neg (by decide +kernel)]; exact ⟨rfl, rfl⟩))
    (fun os started H enc _ F => by rw [OpenClaim.pre_eq_preRow]; exact lifted os started H enc F)


end Go.Proofs.Ytomafgpmiidhlaa.GWalks
namespace Go.Proofs.Ytomafgpmiidhlaa
theorem guideWalks_holds : Rows.GuideWalksSaid := GWalks.said
end Go.Proofs.Ytomafgpmiidhlaa
