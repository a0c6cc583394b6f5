/-
  For all ints places, fewer and half the statement RopeCircle answers true: awake does; a whole turn's sines are as they should; usual angles begin at none; more places begin with fewer; its card, tied to the program's text.
-/
import Derived.Test.YtkemaofclahaiaaDoorRoh
import Derived.Test.YtkemaofclahaiaaDoorRpM
namespace Go.Proofs.YtkemaofclahaiaaDoor.RCircle
open Go.ChangeShapes Go.WideShapes Go.ChangeAt Go.RowKit Go.Lib Go.Maps

set_option maxHeartbeats 8000000 in
set_option maxRecDepth 100000 in
theorem walk (places fewer half : Int) (w : World) (hS : Sin w) :
    Calls Tryd.prog 6 #[zV places, zV fewer, zV half] w fun e w' => e = .returned (.bool true) ∧ Fresh w w' := by
  have HS : Hid (Sin w) := hS
  have HAW : Hid (Unit → _) := fun (_ : Unit) => awake_any w hS
  clear hS
  go_enter Tryd.func6, Tryd.ntmps6
  go_wp2_with fail
  refine (HAW.out ()).mono ?_
  rintro e w1 ⟨rfl, hF1⟩
  have HF1 : Hid (Fresh w w1) := hF1
  have HSi : Hid (∀ a, Calls Tryd.prog 15 #[zV a] w1 fun e w' => e = .returned (.int .i8 (sn a)) ∧ w' = w1) := fun a => Sine_any a w1 (HS.out.fresh hF1)
  clear HAW hF1
  go_wp2
  go_loopw [22] (fun iv wr => ∃ r : Nat, r ≤ 256 ∧ iv = zV r ∧ wr = w1) (fun iv _ => 256 - (RowKit.intOf iv).toNat)
  case atStart => exact ⟨0, Nat.zero_le _, rfl, rfl⟩
  case round =>
    obtain ⟨r, hr, rfl, rfl⟩ := hrel
    by_cases hlt : r < 256
    · obtain ⟨⟨n1, n2⟩, n3, n4, n5⟩ := circle_num r hlt
      have b1 := sn_in (r : Int)
      have b2 := sn_in ((r : Int) + 64)
      have m1 := sq_bound b1
      have m2 := sq_bound b2
      have H0 : Hid (Unit → _) := fun (_ : Unit) => HSi.out (r : Int)
      have H1 : Hid (Unit → _) := fun (_ : Unit) => HSi.out ((r : Int) + 64)
      have H2 : Hid (Unit → _) := fun (_ : Unit) => HSi.out ((r : Int) + 128)
      have H3 : Hid (Unit → _) := fun (_ : Unit) => HSi.out ((r : Int) - 256)
      have H4 : Hid (Unit → _) := fun (_ : Unit) => HSi.out (-(r : Int))
      rw [n3] at H2
      rw [n4] at H3
      rw [n5] at H4
      clear n3 n4 n5
      generalize sn (r : Int) = s at *
      generalize sn ((r : Int) + 64) = c at *
      obtain ⟨A, hA⟩ : ∃ A, s * s = A := ⟨_, rfl⟩
      obtain ⟨B, hB⟩ : ∃ B, c * c = B := ⟨_, rfl⟩
      rw [hA] at m1 n1 n2
      rw [hB] at m2 n1 n2
      have n1' : decide (75 < A + B - 4096) = false := by simp; omega
      have n2' : decide (A + B - 4096 < -75) = false := by simp; omega
      go_wp2_with fail
      refine (H0.out ()).mono ?_
      rintro e w2 ⟨rfl, hw⟩
      have hw' := hw.symm
      subst hw'
      clear hw
      go_wp2_with fail
      refine (H1.out ()).mono ?_
      rintro e w2 ⟨rfl, hw⟩
      have hw' := hw.symm
      subst hw'
      clear hw
      go_wp2_with fail
      refine (H2.out ()).mono ?_
      rintro e w2 ⟨rfl, hw⟩
      have hw' := hw.symm
      subst hw'
      clear hw
      go_wp2_with fail
      refine (H0.out ()).mono ?_
      rintro e w2 ⟨rfl, hw⟩
      have hw' := hw.symm
      subst hw'
      clear hw
      go_wp2_with fail
      refine (H3.out ()).mono ?_
      rintro e w2 ⟨rfl, hw⟩
      have hw' := hw.symm
      subst hw'
      clear hw
      go_wp2_with fail
      refine (H0.out ()).mono ?_
      rintro e w2 ⟨rfl, hw⟩
      have hw' := hw.symm
      subst hw'
      clear hw
      go_wp2_with fail
      refine (H4.out ()).mono ?_
      rintro e w2 ⟨rfl, hw⟩
      have hw' := hw.symm
      subst hw'
      clear hw
      go_wp2_with fail
      refine (H0.out ()).mono ?_
      rintro e w2 ⟨rfl, hw⟩
      have hw' := hw.symm
      subst hw'
      clear hw
      go_wp2
      go_roundw
      case rel => exact ⟨r + 1, hlt, by go_num, trivial⟩
      case measure => simp [RowKit.intOf]; omega
    · obtain rfl : r = 256 := by omega
      clear HSi
      go_wp2_with fail
      refine (Table_any places half wr (HS.out.fresh HF1.out)).mono ?_
      rintro e w4 hG4
      obtain ⟨u4, v4, rfl, hu4, hv4, hF4⟩ := hG4.tab
      have HF4 : Hid (Fresh w w4) := HF1.out.trans hF4 (fun _ _ e => e)
      obtain ⟨ao, ac, rfl, hac⟩ := hu4.shape
      obtain ⟨bo, bc, rfl, hbc⟩ := hv4.shape
      have HR4 : Hid _ := And.intro hu4 hv4
      clear hG4 hF4 HF1 hu4 hv4
      go_wp2_with fail
      refine (refTable_any places half w4).mono ?_
      rintro e w5 hG5
      obtain ⟨u5, v5, rfl, hu5, hv5, hF5⟩ := hG5.tab
      have HF5 : Hid (Fresh w w5) := HF4.out.trans hF5 (fun _ _ e => e)
      have HR5 : Hid _ := And.intro (HR4.out.1.fresh hF5) (HR4.out.2.fresh hF5)
      clear hG5 hF5 HF4 hu5 hv5 HR4
      rw [sinL_len] at hbc HR5 ⊢
      rcases stE_two places half with hE | ⟨P, h, rfl, rfl, p1, p2, q1, q2, hE⟩
      · have hl : (cosL places half 1 1).length = 0 := by rw [cosL_bad (by rw [hE]; decide)]; rfl
        rw [hl] at hac hbc ⊢
        rw [hE]
        clear HR5
        go_wp2
        go_ret
        exact ⟨rfl, HF5.out⟩
      · have hl : (cosL P h 1 1).length = P * h := by rw [cosL_ok hE, mkL_len]
        have HE1 : Hid (cosL P h 1 1 = mkL (P * h) (cosF 1 1 h)) := cosL_ok hE
        have HE2 : Hid (sinL P h 1 1 = mkL (P * h) (sinF 1 1 h)) := sinL_ok hE
        have hPh : P * h ≤ 16384 := by have := Nat.mul_le_mul p2 q2; omega
        have hPh2 : h ≤ P * h := by have := Nat.mul_le_mul_right h p1; omega
        rw [hl] at hac hbc HR5 ⊢
        rw [hE]
        rw [HE1.out, HE2.out] at HR5
        obtain ⟨n, hn⟩ : ∃ n, P * h = n := ⟨_, rfl⟩
        have hn2 : (P : Int) * (h : Int) = (n : Int) := by rw [← hn]; simp
        rw [hn] at hPh hPh2 hac hbc HR5 ⊢
        obtain ⟨_, _, _, hc1⟩ := HR5.out.1.cells
        obtain ⟨_, _, _, hc2⟩ := HR5.out.2.cells
        obtain ⟨b1, o1, rfl, _, _, hc1⟩ := hc1 (by omega)
        obtain ⟨b2, o2, rfl, _, _, hc2⟩ := hc2 (by omega)
        have HC : Hid (∀ i, i < h → w5.cell? ⟨b1, o1 + i, none⟩ = some (.int .i8 64) ∧ w5.cell? ⟨b2, o2 + i, none⟩ = some (.int .i8 0)) := fun i hi => by
          have e1 := hc1 i (by omega)
          have e2 := hc2 i (by omega)
          rw [mkL_get (by omega)] at e1 e2
          rw [(tab_zero h i hi).1] at e1
          rw [(tab_zero h i hi).2] at e2
          exact ⟨e1, e2⟩
        clear hc1 hc2
        go_wp2
        go_loopw [117] (fun iv wr => ∃ i : Nat, i ≤ h ∧ iv = zV i ∧ wr = w5) (fun iv _ => h - (RowKit.intOf iv).toNat)
        case atStart => exact ⟨0, Nat.zero_le _, rfl, rfl⟩
        case round =>
          obtain ⟨i, hi, rfl, rfl⟩ := hrel
          by_cases hil : i < h
          · obtain ⟨g1, g2⟩ := HC.out i hil
            have hil' : (i : Int) < (h : Int) := by omega
            clear HC
            go_wp2
            go_roundw
            case rel => exact ⟨i + 1, hil, by go_num, trivial⟩
            case measure => simp [RowKit.intOf]; omega
          · obtain rfl : i = h := by omega
            clear HC
            go_wp2_with fail
            refine (Table_any fewer i wr (HS.out.fresh HF5.out)).mono ?_
            rintro e w6 hG6
            obtain ⟨u6, v6, rfl, hu6, hv6, hF6⟩ := hG6.tab
            have HF6 : Hid (Fresh w w6) := HF5.out.trans hF6 (fun _ _ e => e)
            have HR6 : Hid _ := And.intro (HR5.out.1.fresh hF6) (HR5.out.2.fresh hF6)
            have HR7 : Hid _ := And.intro hu6 hv6
            clear hG6 hF6 HF5 hu6 hv6 HR5
            by_cases c1 : fewer < 1
            · go_wp2
              go_ret
              exact ⟨rfl, HF6.out⟩
            · have c1' : decide (fewer < 1) = false := by simp; omega
              by_cases c2 : (P : Int) < fewer
              · go_wp2
                go_ret
                exact ⟨rfl, HF6.out⟩
              · have c2' : decide ((P : Int) < fewer) = false := by simp; omega
                obtain ⟨Q, rfl⟩ := Int.eq_ofNat_of_zero_le (show 0 ≤ fewer by omega)
                have hE2 : stE Q i 1 1 = 0 := stE_ok (by omega) (by omega) q1 q2 (by decide) (by decide) (by decide) (by decide)
                have hQ : Q * i ≤ n := by rw [← hn]; exact Nat.mul_le_mul_right i (by omega)
                rw [cosL_ok hE2, sinL_ok hE2] at HR7
                rw [hE2]
                obtain ⟨m, hm⟩ : ∃ m, Q * i = m := ⟨_, rfl⟩
                have hm2 : (Q : Int) * (i : Int) = (m : Int) := by rw [← hm]; simp
                rw [hm] at hQ HR7
                have HA : Hid (Unit → _) := fun (_ : Unit) => same_any _ _ _ _ _ w6 HR7.out.1 (by rw [← mkL_pre (cosF 1 1 i) hQ]; exact HR6.out.1.pre m hQ)
                have HB : Hid (∀ W, Fresh w6 W → _) := fun W hW => same_any _ _ _ _ _ W (HR7.out.2.fresh hW) (by rw [← mkL_pre (sinF 1 1 i) hQ]; exact (HR6.out.2.pre m hQ).fresh hW)
                have hQ' : (m : Int) ≤ (n : Int) := by omega
                clear HR6 HR7 HE1 HE2
                go_wp2_with fail
                refine (HA.out ()).mono ?_
                rintro e w7 ⟨rfl, n7, hw7⟩
                have HF7 : Hid (Fresh w6 w7) := by show Fresh _ _; rw [hw7]; exact (Kept.refl _ _).drewN n7
                clear hw7 HA
                go_wp2_with fail
                refine (HB.out _ HF7.out).mono ?_
                rintro e w8 ⟨rfl, n8, hw8⟩
                have HF8 : Hid (Fresh w w8) := by show Fresh _ _; rw [hw8]; exact HF6.out.trans (HF7.out.drewN n8) (fun _ _ e => e)
                clear hw8 HB HF7 HF6
                go_wp2
                go_ret
                exact ⟨rfl, HF8.out⟩

set_option maxRecDepth 100000 in
theorem contract (H : Type) (enc : TypeId × Value → H) (W : World) (base : Nat) (args : Array Value) (ds gs : List (DataW H)) (before : List MemPlace)
    (hval : ∀ (j : Nat) t v, Tryd.f6.params[j]? = some t → args[j]? = some v → Value.okWide Tryd.prog W .any base t v)
    (hW : DataW.Whole enc Tryd.prog Tryd.f6.params.toList Rows.ropeCircleSpec.vars false W args.toList ds gs before) 
    (hsz : (DataW.weightsEach Tryd.prog (Tryd.f6.params.toList ++ []) (ds ++ gs)).all (· ≤ reachBytes) = true) (hL : laidMetH Tryd.prog Rows.ropeCircleRow.laid W) :
    Calls Tryd.prog 6 args W fun e W' => ∃ v, e = .returned v ∧ Rows.ropeCircleSpec.post enc Tryd.prog Tryd.f6 false true false false W args v W' := by
  have hW' := hW
  obtain ⟨p, q, hA0, hV, rfl, hfz, hnd⟩ := hW
  have hA : DataW.TrodAll enc Tryd.prog W 0 (fun _ => true) true Tryd.f6.params.toList args.toList ds p := hA0
  rw [Tryd.params6] at hA hval hsz
  obtain ⟨rfl, rfl⟩ := trodVars_none hV
  obtain ⟨v0, v1, v2, d0, d1, d2, p0, p1, p2, rfl, rfl, rfl, h0, h1, h2⟩ := trodAll_three hA
  obtain ⟨x0, rfl, rfl, rfl, w0⟩ := open_int Tryd.underlying3 (hval 0 3 v0 rfl rfl) h0
  obtain ⟨x1, rfl, rfl, rfl, w1⟩ := open_int Tryd.underlying3 (hval 1 3 v1 rfl rfl) h1
  obtain ⟨x2, rfl, rfl, rfl, w2⟩ := open_int Tryd.underlying3 (hval 2 3 v2 rfl rfl) h2
  refine (walk x0 x1 x2 W (sin_of_laid hL)).mono fun e W' ⟨he, hk⟩ => ?_
  subst he
  exact ⟨_, rfl, post_law rfl (by kernel_rfl) (by kernel_rfl) hW' rfl hk⟩

set_option maxRecDepth 100000 in
theorem laid_met (os : Os) : laidMet Tryd.prog Rows.ropeCircleRow.laid ((layIn (World.holding Tryd.prog os ⟨#[], #[], []⟩)).forCall (fun _ _ => 0) ⟨#[], #[.int .i64 0, .int .i64 0, .int .i64 0], []⟩).memory :=
  laidMet_of_run' 8 (by kernel_rfl) (by kernel_rfl)
set_option maxRecDepth 100000 in
theorem reads (os : Os) {H : Type} (enc : TypeId × Value → H) : ∃ places, DataW.whole enc Tryd.prog ((layIn (World.holding Tryd.prog os ⟨#[], #[], []⟩)).forCall (fun _ _ => 0) ⟨#[], #[.int .i64 0, .int .i64 0, .int .i64 0], []⟩).memory Tryd.f6.params.toList Rows.ropeCircleSpec.vars false (#[.int .i64 0, .int .i64 0, .int .i64 0] : Array Value).toList 8 = some ([.lit (.int .i64 0), .lit (.int .i64 0), .lit (.int .i64 0)], [], places) :=
  ⟨[], by kernel_rfl⟩

set_option maxRecDepth 100000 in
theorem lifted (os : Os) (started : os.Started) (H : Type) (enc : TypeId × Value → H) (F : Stop.Interp) :
    ReturnsInHanded {} Tryd.checked os 6 .any ((OpenSpec.ofChange Rows.ropeCircleSpec).preRow enc Tryd.prog Tryd.f6 Rows.ropeCircleRow.domain false Rows.ropeCircleRow.laid) (((OpenSpec.ofChange Rows.ropeCircleSpec).at F).post enc Tryd.prog Tryd.f6 false true false false) := by
  obtain ⟨places, hx⟩ := reads os enc
  refine returnsInHanded_of_row (C := Tryd.checked) (s := OpenSpec.ofChange Rows.ropeCircleSpec) Tryd.own started (by kernel_rfl) Tryd.func6
    (witness_row_at (enc := enc) (C := Tryd.checked) false (layIn (World.holding Tryd.prog os ⟨#[], #[], []⟩)) #[.int .i64 0, .int .i64 0, .int .i64 0] rfl (by kernel_rfl) (by kernel_rfl) (by kernel_rfl)
      (OpenSpec.preRow_of_cond 8 hx (by kernel_rfl) (fun k hk => by cases hk) (by kernel_rfl) (laid_met os))) ?_
  intro W base args ds gs before hval hW _ hc hsz hL _ _
  exact contract H enc W base args ds gs before hval hW hsz hL

theorem said : Rows.RopeCircleSaid :=
  OpenClaim.holds_of_cond 6 Tryd.f6 rfl rfl rfl rfl rfl rfl rfl ⟨rfl, rfl, rfl, rfl, rfl⟩ rfl rfl rfl rfl rfl (by kernel_rfl) Tryd.func6 (by kernel_rfl)
    (of_decide_eq_true (by kernel_rfl)) (by unfold Func.isWrapper; first | (rw [if_pos (by decide +kernel)]; kernel_rfl) | (rw [if_neg (by decide +kernel)]; exact ⟨rfl, rfl⟩))
    (fun os started H enc _ F => by rw [OpenClaim.pre_eq_preRow]; exact lifted os started H enc F)

theorem plain (f : FuncId) (fn : Func) (hf : Tryd.pinned.checked.prog.funcNamed Rows.ropeCircleRow.func = some f) (hfn : Tryd.pinned.checked.prog.funcs[f]? = some fn) :
    false = Tryd.pinned.checked.prog.looks [] ∧ ∀ (j : Nat) t, fn.params[j]? = some t → Tryd.pinned.checked.prog.wantsStandIn t = false := by
  obtain rfl : f = 6 := Option.some.inj ((show Tryd.prog.funcNamed Rows.ropeCircleRow.func = some 6 by kernel_rfl).symm.trans hf) |>.symm
  obtain rfl : fn = Tryd.f6 := (Option.some.inj (Tryd.func6.symm.trans hfn)).symm
  refine ⟨by kernel_rfl, fun j t ht => ?_⟩
  have hall : (Tryd.f6.params.toList.all fun u => !Tryd.prog.wantsStandIn u) = true := by kernel_rfl
  exact (show Tryd.prog.wantsStandIn t = false by simpa using List.all_eq_true.1 hall t (Array.mem_toList_iff.2 (Array.mem_of_getElem? ht)))

theorem card : Rows.RopeCircleCardSaid :=
  Claim7.holds_tied_plain_at .later [] _ _ _ _ said (fun _ h => by cases h) (by kernel_rfl) (fun _ h => by cases h) ropeCircle_row_tie rfl ⟨rfl, rfl⟩ (by kernel_rfl) rfl plain (by kernel_rfl)

end Go.Proofs.YtkemaofclahaiaaDoor.RCircle
namespace Go.Proofs.YtkemaofclahaiaaDoor
theorem ropeCircle_card : Rows.RopeCircleCardSaid := RCircle.card
end Go.Proofs.YtkemaofclahaiaaDoor
