/-
  For every two lists of int64 and every shift the statement VecScales answers true: awake does; Add, Scale and Shrink are the document's; what is handed in stays.
-/
import Derived.Test.YtjffiojjjmecgaaVcv
import Derived.Test.YtjffiojjjmecgaaVch
namespace Go.Proofs.Ytjffiojjjmecgaa.Scales8
open Go.ChangeShapes Go.WideShapes Go.ChangeAt Go.RowKit Go.Lib Go.Maps

/-- A row copied. -/
theorem copy64 (w W : World) (hF : Fresh w W) (av : Value) (A : List Int) (hA : Rk .i64 (fun b => b < w.heap.size) w av A) :
    ∃ ta tc W1, (Builtin.append_ #[36, 36] 36 #[.slice (some ⟨W.heap.size, 0, none⟩) 0 0, av]).run Try.prog (W.alloc (.cells #[] 2)) = .ok (.slice ta A.length tc) W1 ∧ Fresh W W1 ∧ Rk .i64 (fun _ => True) W1 (.slice ta A.length tc) A := by
  have hF0 : Fresh W (W.alloc (.cells #[] 2)) := (Kept.refl _ W).alloc _
  obtain ⟨t1, W1, h1, h2, h3⟩ := twin ty64 36 (W.alloc (.cells #[] 2)) W.heap.size _ [] (own_empty W _ (Nat.le_refl _) _) hF0.size av A _ ((hA.fresh hF).fresh hF0) (by have := hA.len; simpa using this)
  simp only [List.length_nil, Nat.zero_add, List.nil_append] at h2
  have hR := rk_of_own h2 hA.len hA.all
  obtain ⟨ta, tc, rfl, _⟩ := hR.shape
  exact ⟨ta, tc, W1, h1, hF0.grown h3 (fun k hk e => by simp [Value.ownBlock] at e; omega), hR.mono (fun _ _ => trivial)⟩

set_option maxHeartbeats 16000000 in
set_option maxRecDepth 100000 in
theorem walk (av bv : Value) (A B : List Int) (s : Int) (w : World) (hA : Rk .i64 (fun b => b < w.heap.size) w av A) (hB : Rk .i64 (fun b => b < w.heap.size) w bv B) (hs : I64 s) :
    Calls Try.prog 6 #[av, bv, zV s] w fun e w' => e = .returned (.bool true) ∧ Fresh w w' := by
  have HAW : Hid (Unit → _) := fun (_ : Unit) => awake_any w
  have HR : Hid (∀ W, Fresh w W → Rk .i64 (fun b => b < w.heap.size) W av A ∧ Rk .i64 (fun b => b < w.heap.size) W bv B) := fun W hF => ⟨hA.fresh hF, hB.fresh hF⟩
  have HS : Hid (I64 s) := hs
  have HCo : Hid (∀ W, Fresh w W → ∃ ta tc W1 ua uc W2, (Builtin.append_ #[36, 36] 36 #[.slice (some ⟨W.heap.size, 0, none⟩) 0 0, av]).run Try.prog (W.alloc (.cells #[] 2)) = .ok (.slice ta A.length tc) W1 ∧ (Builtin.append_ #[36, 36] 36 #[.slice (some ⟨W1.heap.size, 0, none⟩) 0 0, bv]).run Try.prog (W1.alloc (.cells #[] 2)) = .ok (.slice ua B.length uc) W2 ∧ Fresh w W2 ∧ Rk .i64 (fun _ => True) W2 (.slice ta A.length tc) A ∧ Rk .i64 (fun _ => True) W2 (.slice ua B.length uc) B) := fun W hF => by
    obtain ⟨ta, tc, W1, e1, f1, r1⟩ := copy64 w W hF av A hA
    obtain ⟨ua, uc, W2, e2, f2, r2⟩ := copy64 w W1 (hF.trans f1 (fun _ _ e => e)) bv B hB
    exact ⟨ta, tc, W1, ua, uc, W2, e1, e2, (hF.trans f1 (fun _ _ e => e)).trans f2 (fun _ _ e => e), r1.fresh f2, r2⟩
  have HI1 : Hid ((adL A B).length * kb .i64 ≤ 140737488351232 ∧ ∀ z ∈ adL A B, Fit .i64 z) := ⟨by have := adL_len A B; simp [kb]; omega, adL_i64 A B⟩
  have HI2 : Hid ((sL A s 62 (fun x => rdQ x s)).length * kb .i64 ≤ 140737488351232 ∧ ∀ z ∈ sL A s 62 (fun x => rdQ x s), Fit .i64 z) := by
    refine ⟨by have := sL_len A s 62 (fun x => rdQ x s); simp [kb]; omega, fun z hz => ?_⟩
    unfold sL at hz
    split at hz
    · obtain ⟨x, hx, rfl⟩ := List.mem_map.1 hz
      exact rdQ_i64 (hA.all x hx)
    · cases hz
  have HI3 : Hid ((sL A s 62 (fun x => clamp (rdQ x s) (-127) 127)).length * kb .i8 ≤ 140737488351232 ∧ ∀ z ∈ sL A s 62 (fun x => clamp (rdQ x s) (-127) 127), Fit .i8 z) := by
    refine ⟨by have := sL_len A s 62 (fun x => clamp (rdQ x s) (-127) 127); simp [kb]; omega, fun z hz => ?_⟩
    unfold sL at hz
    split at hz
    · obtain ⟨x, hx, rfl⟩ := List.mem_map.1 hz
      have := clamp_bound (rdQ x s)
      exact ⟨by omega, by omega⟩
    · cases hz
  obtain ⟨ao, ac, hva, _⟩ := hA.shape
  obtain ⟨bo, bc, hvb, _⟩ := hB.shape
  subst hva
  subst hvb
  clear hA hB hs
  go_enter Try.func6, Try.ntmps6
  go_wp2_with fail
  refine (HAW.out ()).mono ?_
  rintro e w1 ⟨rfl, hF1⟩
  obtain ⟨ta, tc, W1, ua, uc, w2, e1, e2, hF2, hr1, hr2⟩ := HCo.out w1 hF1
  have HF2 : Hid (Fresh w w2) := hF2
  have HT : Hid (∀ W, Fresh w2 W → Rk .i64 (fun _ => True) W (.slice ta A.length tc) A ∧ Rk .i64 (fun _ => True) W (.slice ua B.length uc) B) := fun W hF => ⟨hr1.fresh hF, hr2.fresh hF⟩
  have H1 : Hid (Unit → _) := fun (_ : Unit) => Add_any _ _ _ _ A B w2 hr1 hr2
  clear HAW hF1 HCo hF2 hr1 hr2
  go_wp2_with (at_builtin; first | (refine Lib.wpList_append_run _ rfl _ _ _ _ rfl _ _ rfl rfl _ _ e1 ?_; clear e1) | (refine Lib.wpList_append_run _ rfl _ _ _ _ rfl _ _ rfl rfl _ _ e2 ?_; clear e2))
  refine (H1.out ()).mono ?_
  rintro e w3 hG
  obtain ⟨v3, rfl, hR3, hF3⟩ := hG.row HI1.out.1 HI1.out.2
  have HF3 : Hid (Fresh w2 w3) := hF3
  have HR3 : Hid (∀ W, Fresh w3 W → Rk .i64 (fun _ => True) W v3 (adL A B)) := fun W hF => (hR3.fresh hF).mono (fun _ _ => trivial)
  clear H1 hG hR3 hF3
  have H2 : Hid (Unit → _) := fun (_ : Unit) => refVAdd_any _ _ _ _ A B w3 (HR.out w3 (HF2.out.trans HF3.out (fun _ _ e => e))).1 (HR.out w3 (HF2.out.trans HF3.out (fun _ _ e => e))).2
  go_wp2_with fail
  refine (H2.out ()).mono ?_
  rintro e w4 hG
  obtain ⟨v4, rfl, hR4, hF4⟩ := hG.row HI1.out.1 HI1.out.2
  have HF4 : Hid (Fresh w2 w4) := HF3.out.trans hF4 (fun _ _ e => e)
  have H3 : Hid (Unit → _) := fun (_ : Unit) => same64_any _ _ _ _ _ w4 (HR3.out w4 hF4) hR4
  clear H2 hG hR4 hF4 HF3 HR3
  go_wp2_with fail
  refine (H3.out ()).mono ?_
  rintro e w5 ⟨rfl, n5, hw5⟩
  have HF5 : Hid (Fresh w2 w5) := by show Fresh _ _; rw [hw5]; exact HF4.out.drewN n5
  clear hw5 H3 HF4
  generalize adE A B = E1 at *
  have H4 : Hid (Unit → _) := fun (_ : Unit) => Scale_any _ _ A s w5 (HT.out w5 HF5.out).1 HS.out
  go_wp2_with fail
  refine (H4.out ()).mono ?_
  rintro e w6 hG
  obtain ⟨v6, rfl, hR6, hF6⟩ := hG.row HI2.out.1 HI2.out.2
  have HF6 : Hid (Fresh w2 w6) := HF5.out.trans hF6 (fun _ _ e => e)
  have HR6 : Hid (∀ W, Fresh w6 W → Rk .i64 (fun _ => True) W v6 (sL A s 62 (fun x => rdQ x s))) := fun W hF => (hR6.fresh hF).mono (fun _ _ => trivial)
  clear H4 hG hR6 hF6 HF5
  have H5 : Hid (Unit → _) := fun (_ : Unit) => refScale_any _ _ A s w6 (HR.out w6 (HF2.out.trans HF6.out (fun _ _ e => e))).1 HS.out
  go_wp2_with fail
  refine (H5.out ()).mono ?_
  rintro e w7 hG
  obtain ⟨v7, rfl, hR7, hF7⟩ := hG.row HI2.out.1 HI2.out.2
  have HF7 : Hid (Fresh w2 w7) := HF6.out.trans hF7 (fun _ _ e => e)
  have H6 : Hid (Unit → _) := fun (_ : Unit) => same64_any _ _ _ _ _ w7 (HR6.out w7 hF7) hR7
  clear H5 hG hR7 hF7 HF6 HR6
  go_wp2_with fail
  refine (H6.out ()).mono ?_
  rintro e w8 ⟨rfl, n8, hw8⟩
  have HF8 : Hid (Fresh w2 w8) := by show Fresh _ _; rw [hw8]; exact HF7.out.drewN n8
  clear hw8 H6 HF7
  have H7 : Hid (Unit → _) := fun (_ : Unit) => Shrink_any _ _ A s w8 (HT.out w8 HF8.out).1 HS.out
  go_wp2_with fail
  refine (H7.out ()).mono ?_
  rintro e w9 hG
  obtain ⟨v9, rfl, hR9, hF9⟩ := hG.row HI3.out.1 HI3.out.2
  have HF9 : Hid (Fresh w2 w9) := HF8.out.trans hF9 (fun _ _ e => e)
  have HR9 : Hid (∀ W, Fresh w9 W → Rk .i8 (fun _ => True) W v9 (sL A s 62 (fun x => clamp (rdQ x s) (-127) 127))) := fun W hF => (hR9.fresh hF).mono (fun _ _ => trivial)
  clear H7 hG hR9 hF9 HF8
  have H8 : Hid (Unit → _) := fun (_ : Unit) => refShrink_any _ _ A s w9 (HR.out w9 (HF2.out.trans HF9.out (fun _ _ e => e))).1 HS.out
  go_wp2_with fail
  refine (H8.out ()).mono ?_
  rintro e wa hG
  obtain ⟨va, rfl, hRa, hFa⟩ := hG.row HI3.out.1 HI3.out.2
  have HFa : Hid (Fresh w2 wa) := HF9.out.trans hFa (fun _ _ e => e)
  have H9 : Hid (Unit → _) := fun (_ : Unit) => same8_any _ _ _ _ _ wa (HR9.out wa hFa) hRa
  clear H8 hG hRa hFa HF9 HR9
  go_wp2_with fail
  refine (H9.out ()).mono ?_
  rintro e wb ⟨rfl, nb, hwb⟩
  have HFb : Hid (Fresh w2 wb) := by show Fresh _ _; rw [hwb]; exact HFa.out.drewN nb
  clear hwb H9 HFa
  generalize sE A.length s 62 = E2 at *
  have Ha : Hid (Unit → _) := fun (_ : Unit) => same64_any _ _ _ _ _ wb (HT.out wb HFb.out).1 (HR.out wb (HF2.out.trans HFb.out (fun _ _ e => e))).1
  go_wp2_with fail
  refine (Ha.out ()).mono ?_
  rintro e wd ⟨rfl, nd, hwd⟩
  have HFd : Hid (Fresh w2 wd) := by show Fresh _ _; rw [hwd]; exact HFb.out.drewN nd
  clear hwd Ha HFb
  have Hb : Hid (Unit → _) := fun (_ : Unit) => same64_any _ _ _ _ _ wd (HT.out wd HFd.out).2 (HR.out wd (HF2.out.trans HFd.out (fun _ _ e => e))).2
  go_wp2_with fail
  refine (Hb.out ()).mono ?_
  rintro e we ⟨rfl, ne, hwe⟩
  have HFe : Hid (Fresh w we) := by show Fresh _ _; rw [hwe]; exact (HF2.out.trans HFd.out (fun _ _ e => e)).drewN ne
  clear hwe Hb HFd HR HT HI1 HI2 HI3
  go_wp2
  go_ret
  exact ⟨by simp, HFe.out⟩

theorem Try.b64 : Try.prog.bytesOf 2 = 8 := by kernel_rfl
set_option maxRecDepth 100000 in
theorem contract (H : Type) (enc : TypeId × Value → H) (W : World) (base : Nat) (args : Array Value) (ds gs : List (DataW H)) (before : List MemPlace)
    (hval : ∀ (j : Nat) t v, Try.f6.params[j]? = some t → args[j]? = some v → Value.okWide Try.prog W .any base t v)
    (hW : DataW.Whole enc Try.prog Try.f6.params.toList Rows.vecScalesSpec.vars false W args.toList ds gs before) 
    (hsz : (DataW.weightsEach Try.prog (Try.f6.params.toList ++ []) (ds ++ gs)).all (· ≤ reachBytes) = true) (hL : laidMetH Try.prog Rows.vecScalesRow.laid W) :
    Calls Try.prog 6 args W fun e W' => ∃ v, e = .returned v ∧ Rows.vecScalesSpec.post enc Try.prog Try.f6 false true false false W args v W' := by
  have hW' := hW
  obtain ⟨p, q, hA0, hV, rfl, hfz, hnd⟩ := hW
  have hA : DataW.TrodAll enc Try.prog W 0 (fun _ => true) true Try.f6.params.toList args.toList ds p := hA0
  rw [Try.params6] at hA hval hsz
  obtain ⟨rfl, rfl⟩ := trodVars_none hV
  have _hL := hL
  obtain ⟨v0, v1, v2, d0, d1, d2, p0, p1, p2, rfl, rfl, rfl, h0, h1, h2⟩ := trodAll_three hA
  obtain ⟨ao, ln, cap, rfl⟩ := okWide_slice Try.underlying36 (hval 0 36 v0 rfl rfl)
  obtain ⟨bo, lm, cbp, rfl⟩ := okWide_slice Try.underlying36 (hval 1 36 v1 rfl rfl)
  obtain ⟨x2, rfl, rfl, rfl, w2⟩ := open_int Try.underlying3 (hval 2 3 v2 rfl rfl) h2
  obtain ⟨f0, hf0⟩ := h0
  obtain ⟨f1, hf1⟩ := h1
  obtain ⟨A, hA1, _⟩ := row_of ty64 (x := (d0, _)) hf0 (fun es sp e => by
    have e' : d0 = .slice es sp := e
    subst e'
    have := sized_slice hsz (j := 0) (t := 36) (e := 2) rfl rfl Try.underlying36
    rw [Try.b64] at this
    simp only [reachBytes] at this
    simp [kb]
    omega)
  obtain ⟨B, hB1, _⟩ := row_of ty64 (x := (d1, _)) hf1 (fun es sp e => by
    have e' : d1 = .slice es sp := e
    subst e'
    have := sized_slice hsz (j := 1) (t := 36) (e := 2) rfl rfl Try.underlying36
    rw [Try.b64] at this
    simp only [reachBytes] at this
    simp [kb]
    omega)
  refine (walk _ _ A B x2 W hA1 hB1 (i64_of w2)).mono fun e W' ⟨he, hk⟩ => ?_
  subst he
  exact ⟨_, rfl, post_law rfl (by kernel_rfl) (by kernel_rfl) hW' rfl hk⟩

set_option maxRecDepth 100000 in
theorem laid_met (os : Os) : laidMet Try.prog Rows.vecScalesRow.laid ((layIn (World.holding Try.prog os ⟨#[], #[], []⟩)).forCall (fun _ _ => 0) ⟨#[], #[.slice none 0 0, .slice none 0 0, .int .i64 0], []⟩).memory :=
  laidMet_of_run' 8 (by kernel_rfl) (by kernel_rfl)
set_option maxRecDepth 100000 in
theorem reads (os : Os) {H : Type} (enc : TypeId × Value → H) : ∃ places, DataW.whole enc Try.prog ((layIn (World.holding Try.prog os ⟨#[], #[], []⟩)).forCall (fun _ _ => 0) ⟨#[], #[.slice none 0 0, .slice none 0 0, .int .i64 0], []⟩).memory Try.f6.params.toList Rows.vecScalesSpec.vars false (#[.slice none 0 0, .slice none 0 0, .int .i64 0] : Array Value).toList 8 = some ([.nil, .nil, .lit (.int .i64 0)], [], places) :=
  ⟨[], by kernel_rfl⟩

set_option maxRecDepth 100000 in
theorem lifted (os : Os) (started : os.Started) (H : Type) (enc : TypeId × Value → H) (F : Stop.Interp) :
    ReturnsInHanded {} Try.checked os 6 .any ((OpenSpec.ofChange Rows.vecScalesSpec).preRow enc Try.prog Try.f6 Rows.vecScalesRow.domain false Rows.vecScalesRow.laid) (((OpenSpec.ofChange Rows.vecScalesSpec).at F).post enc Try.prog Try.f6 false true false false) := by
  obtain ⟨places, hx⟩ := reads os enc
  refine returnsInHanded_of_row (C := Try.checked) (s := OpenSpec.ofChange Rows.vecScalesSpec) Try.own started (by kernel_rfl) Try.func6
    (witness_row_at (enc := enc) (C := Try.checked) false (layIn (World.holding Try.prog os ⟨#[], #[], []⟩)) #[.slice none 0 0, .slice none 0 0, .int .i64 0] rfl (by kernel_rfl) (by kernel_rfl) (by kernel_rfl)
      (OpenSpec.preRow_of_cond 8 hx (by kernel_rfl) (fun k hk => by cases hk) (by kernel_rfl) (laid_met os))) ?_
  intro W base args ds gs before hval hW _ hc hsz hL _ _
  exact contract H enc W base args ds gs before hval hW hsz hL

theorem said : Rows.VecScalesSaid :=
  OpenClaim.holds_of_cond 6 Try.f6 rfl rfl rfl rfl rfl rfl rfl ⟨rfl, rfl, rfl, rfl, rfl⟩ rfl rfl rfl rfl rfl (by kernel_rfl) Try.func6 (by kernel_rfl)
    (of_decide_eq_true (by kernel_rfl)) (by unfold Func.isWrapper; first | (rw [if_pos (by decide +kernel)]; kernel_rfl) | (rw [if_neg (by decide +kernel)]; exact ⟨rfl, rfl⟩))
    (fun os started H enc _ F => by rw [OpenClaim.pre_eq_preRow]; exact lifted os started H enc F)


end Go.Proofs.Ytjffiojjjmecgaa.Scales8
namespace Go.Proofs.Ytjffiojjjmecgaa
theorem vecScales_holds : Rows.VecScalesSaid := Scales8.said
end Go.Proofs.Ytjffiojjjmecgaa
