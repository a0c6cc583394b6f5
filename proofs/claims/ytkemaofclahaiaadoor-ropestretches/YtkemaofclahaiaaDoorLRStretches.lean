/-
  For all ints places and half and every Stretch the statement RopeStretches answers true: awake does; Stretched is the document's; by a number over itself it is Table, by one half the place 2 p has Table's angles of p; its card, tied to the program's text.
-/
import Derived.Test.YtkemaofclahaiaaDoorRoh
import Derived.Test.YtkemaofclahaiaaDoorRpM
import Derived.BigQuiet
namespace Go.Proofs.YtkemaofclahaiaaDoor.RStretches
open Go.ChangeShapes Go.WideShapes Go.ChangeAt Go.RowKit Go.Lib Go.Maps Go.Joins

theorem wrapId {x : Int} (h0 : -9223372036854775808 ≤ x) (h1 : x ≤ 9223372036854775807) : IntKind.i64.wrap x = x := by rw [IntKind.wrap_i64]; omega

set_option maxHeartbeats 8000000 in
set_option maxRecDepth 100000 in
theorem walk (places half num den : Int) (w : World) (hS : Sin w) :
    Calls Tryd.prog 8 #[zV places, zV half, .agg #[zV num, zV den]] w fun e w' => e = .returned (.bool true) ∧ Fresh w w' := by
  obtain ⟨W0, hW0⟩ : ∃ W0, W0 = w.alloc (.cells #[zV num, zV den] 44) := ⟨_, rfl⟩
  have HF0 : Hid (Fresh w W0) := by show Fresh _ _; rw [hW0]; exact (Kept.refl _ w).alloc _
  have p1 : W0.heap[w.heap.size]? = some (.cells #[zV num, zV den] 44 (0, 0)) := by rw [hW0]; exact heap_alloc_new w _
  have HP : Hid (∀ W, Fresh W0 W → W.cell? ⟨w.heap.size, 0, none⟩ = some (zV num) ∧ W.cell? ⟨w.heap.size, 1, none⟩ = some (zV den)) := fun W hF => by
    have q1 := hF.at p1 (fun e => e)
    exact ⟨by rw [Lib.cell_of_heap q1]; rfl, by rw [Lib.cell_of_heap q1]; rfl⟩
  have HS : Hid (∀ W, Fresh W0 W → Sin W) := fun W hF => (hS.fresh HF0.out).fresh hF
  have HAW : Hid (Unit → _) := fun (_ : Unit) => awake_any W0 (HS.out W0 (Kept.refl _ _))
  clear hS p1
  go_enter Tryd.func8, Tryd.ntmps8
  go_wp2_with fail
  rw [← hW0]
  refine (HAW.out ()).mono ?_
  rintro e w1 ⟨rfl, hF1⟩
  have HF1 : Hid (Fresh W0 w1) := hF1
  clear HAW hF1 hW0
  obtain ⟨c1, c2⟩ := HP.out w1 HF1.out
  go_wp2_with fail
  refine (Stretched_any places half num den w1 (HS.out _ HF1.out)).mono ?_
  rintro e w2 hG
  obtain ⟨u2, v2, rfl, hu2, hv2, hF2⟩ := hG.tab
  have HF2 : Hid (Fresh W0 w2) := HF1.out.trans hF2 (fun _ _ e => e)
  have HR2 : Hid _ := And.intro hu2 hv2
  clear hG hF2 HF1 hu2 hv2 c1 c2
  obtain ⟨c1, c2⟩ := HP.out w2 HF2.out
  go_wp2_with fail
  refine (refStretched_any places half num den w2).mono ?_
  rintro e w3 hG
  obtain ⟨u3, v3, rfl, hu3, hv3, hF3⟩ := hG.tab
  have HF3 : Hid (Fresh W0 w3) := HF2.out.trans hF3 (fun _ _ e => e)
  have HA : Hid (Unit → _) := fun (_ : Unit) => same_any _ _ _ _ _ w3 (HR2.out.1.fresh hF3) hu3
  have HB : Hid (∀ W, Fresh w3 W → _) := fun W hW => same_any _ _ _ _ _ W ((HR2.out.2.fresh hF3).fresh hW) (hv3.fresh hW)
  clear hG hF3 HF2 hu3 hv3 HR2 c1 c2
  generalize stE places half num den = E at *
  go_wp2_with fail
  refine (HA.out ()).mono ?_
  rintro e w4 ⟨rfl, n4, hw4⟩
  have HF4 : Hid (Fresh w3 w4) := by show Fresh _ _; rw [hw4]; exact (Kept.refl _ _).drewN n4
  clear hw4 HA
  go_wp2_with fail
  refine (HB.out _ HF4.out).mono ?_
  rintro e w5 ⟨rfl, n5, hw5⟩
  have HF5 : Hid (Fresh W0 w5) := by show Fresh _ _; rw [hw5]; exact HF3.out.trans (HF4.out.drewN n5) (fun _ _ e => e)
  clear hw5 HB HF4 HF3
  go_wp2_with fail
  refine (Table_any places half w5 (HS.out _ HF5.out)).mono ?_
  rintro e w6 hG
  obtain ⟨u6, v6, rfl, hu6, hv6, hF6⟩ := hG.tab
  have HF6 : Hid (Fresh W0 w6) := HF5.out.trans hF6 (fun _ _ e => e)
  have HR6 : Hid _ := And.intro hu6 hv6
  clear hG hF6 HF5 hu6 hv6
  go_wp2_with fail
  refine (refTable_any places half w6).mono ?_
  rintro e w7 hG
  obtain ⟨u7, v7, rfl, _, _, hF7⟩ := hG.tab
  have HF7 : Hid (Fresh W0 w7) := HF6.out.trans hF7 (fun _ _ e => e)
  have HR7 : Hid _ := And.intro (HR6.out.1.fresh hF7) (HR6.out.2.fresh hF7)
  clear hG hF7 HF6 HR6
  obtain ⟨c1, c2⟩ := HP.out w7 HF7.out
  rcases stE_two places half with hE | ⟨P, h, rfl, rfl, p1, p2, q1, q2, hE⟩
  · rw [hE]
    clear HR7
    go_wp2
    go_ret
    exact ⟨rfl, HF0.out.trans HF7.out (fun _ _ e => e)⟩
  by_cases k1 : num < 1
  · rw [hE]
    clear HR7
    go_wp2
    go_ret
    exact ⟨rfl, HF0.out.trans HF7.out (fun _ _ e => e)⟩
  have k1' : decide (num < 1) = false := by simp; omega
  by_cases k2 : 65536 < num
  · rw [hE]
    clear HR7
    go_wp2
    go_ret
    exact ⟨rfl, HF0.out.trans HF7.out (fun _ _ e => e)⟩
  have k2' : decide (65536 < num) = false := by simp; omega
  have hE1 : stE P h num num = 0 := stE_ok p1 p2 q1 q2 (by omega) (by omega) (by omega) (by omega)
  have hE2 : stE P h 1 2 = 0 := stE_ok p1 p2 q1 q2 (by omega) (by omega) (by omega) (by omega)
  rw [hE]
  go_wp2_with fail
  refine (Stretched_any P h num num w7 (HS.out _ HF7.out)).mono ?_
  rintro e w8 hG
  obtain ⟨u8, v8, rfl, hu8, hv8, hF8⟩ := hG.tab
  rw [(self_L (by omega) hE1 hE).1] at hu8
  rw [(self_L (by omega) hE1 hE).2] at hv8
  have HF8 : Hid (Fresh W0 w8) := HF7.out.trans hF8 (fun _ _ e => e)
  have HR8 : Hid _ := And.intro (And.intro (HR7.out.1.fresh hF8) (HR7.out.2.fresh hF8)) (And.intro hu8 hv8)
  clear hG hF8 HF7 hu8 hv8 c1 c2 HR7
  rw [hE1]
  go_wp2_with fail
  refine (Stretched_any P h 1 2 w8 (HS.out _ HF8.out)).mono ?_
  rintro e w9 hG
  obtain ⟨u9, v9, rfl, hu9, hv9, hF9⟩ := hG.tab
  have HF9 : Hid (Fresh W0 w9) := HF8.out.trans hF9 (fun _ _ e => e)
  have HR9 : Hid _ := And.intro (And.intro (HR8.out.1.1.fresh hF9) (HR8.out.1.2.fresh hF9)) (And.intro hu9 hv9)
  have HA : Hid (Unit → _) := fun (_ : Unit) => same_any _ _ _ _ _ w9 (HR8.out.2.1.fresh hF9) (HR8.out.1.1.fresh hF9)
  have HB : Hid (∀ W, Fresh w9 W → _) := fun W hW => same_any _ _ _ _ _ W ((HR8.out.2.2.fresh hF9).fresh hW) ((HR8.out.1.2.fresh hF9).fresh hW)
  clear hG hF9 HF8 hu9 hv9 HR8
  rw [hE2]
  go_wp2_with fail
  refine (HA.out ()).mono ?_
  rintro e wa ⟨rfl, na, hwa⟩
  have HFa : Hid (Fresh w9 wa) := by show Fresh _ _; rw [hwa]; exact (Kept.refl _ _).drewN na
  clear hwa HA
  go_wp2_with fail
  refine (HB.out _ HFa.out).mono ?_
  rintro e wb ⟨rfl, nb, hwb⟩
  have HFb' : Hid (Fresh w9 wb) := by show Fresh _ _; rw [hwb]; exact HFa.out.drewN nb
  have HFb : Hid (Fresh w wb) := HF0.out.trans (HF9.out.trans HFb'.out (fun _ _ e => e)) (fun _ _ e => e)
  clear hwb HB HFa HF9
  have hl1 : (cosL P h 1 1).length = P * h := by rw [cosL_ok hE, mkL_len]
  have hl2 : (cosL P h 1 2).length = P * h := by rw [cosL_ok hE2, mkL_len]
  have hl3 : (sinL P h 1 1).length = P * h := by rw [sinL_ok hE, mkL_len]
  have hl4 : (sinL P h 1 2).length = P * h := by rw [sinL_ok hE2, mkL_len]
  have hPh : P * h ≤ 16384 := by have := Nat.mul_le_mul p2 q2; omega
  have hPh2 : h ≤ P * h := by have := Nat.mul_le_mul_right h p1; omega
  have HHalf : Hid (∀ p, 2 * p < P → _) := fun p hp => half_L hE2 hE hp
  have HRb : Hid _ := And.intro (And.intro (HR9.out.1.1.fresh HFb'.out) (HR9.out.1.2.fresh HFb'.out)) (And.intro (HR9.out.2.1.fresh HFb'.out) (HR9.out.2.2.fresh HFb'.out))
  obtain ⟨o6, k6, rfl, hk6⟩ := HRb.out.1.1.shape
  obtain ⟨o6', k6', rfl, hk6'⟩ := HRb.out.1.2.shape
  obtain ⟨o9, k9, rfl, hk9⟩ := HRb.out.2.1.shape
  obtain ⟨o9', k9', rfl, hk9'⟩ := HRb.out.2.2.shape
  rw [hl1] at hk6 HRb ⊢
  rw [hl2] at hk9 HRb ⊢
  rw [hl3] at hk6' HRb ⊢
  rw [hl4] at hk9' HRb ⊢
  clear HR9 HFb'
  obtain ⟨b6, f6, rfl, _⟩ := HRb.out.1.1.cells.2.2.2 (by omega)
  obtain ⟨b6', f6', rfl, _⟩ := HRb.out.1.2.cells.2.2.2 (by omega)
  obtain ⟨b9, f9, rfl, _⟩ := HRb.out.2.1.cells.2.2.2 (by omega)
  obtain ⟨b9', f9', rfl, _⟩ := HRb.out.2.2.cells.2.2.2 (by omega)
  have HL : Hid (∀ p, 2 * p < P → 2 * p * h + h ≤ P * h ∧ p * h + h ≤ P * h) := fun p hp => by
    have h1 := Nat.mul_le_mul_right h (show 2 * p + 1 ≤ P by omega)
    have h2 := Nat.mul_le_mul_right h (show p + 1 ≤ P by omega)
    rw [Nat.add_mul, Nat.one_mul] at h1 h2
    exact ⟨h1, h2⟩
  obtain ⟨n, hn⟩ : ∃ n, P * h = n := ⟨_, rfl⟩
  rw [hn] at HRb HL hk6 hk6' hk9 hk9' hPh hPh2 ⊢
  replace hk6 := hk6.2
  replace hk6' := hk6'.2
  replace hk9 := hk9.2
  replace hk9' := hk9'.2
  clear hl1 hl2 hl3 hl4 hE hE1 hE2 HS HP
  go_wp2
  go_loopw [24] (fun iv wr => ∃ p : Nat, 2 * p < P + 2 ∧ iv = zV p ∧ Hid (Fresh wb wr)) (fun iv _ => P - (RowKit.intOf iv).toNat)
  case atStart => exact ⟨0, by omega, rfl, Kept.refl _ _⟩
  case round =>
    obtain ⟨p, hp, rfl, HW⟩ := hrel
    by_cases hlt : 2 * p < P
    · obtain ⟨j1, j2⟩ := HL.out p hlt
      obtain ⟨e1, e2⟩ := HHalf.out p hlt
      have hx1 := HRb.out.2.1.cut (2 * p * h) h j1
      have hy1 := HRb.out.1.1.cut (p * h) h j2
      have hx2 := HRb.out.2.2.cut (2 * p * h) h j1
      have hy2 := HRb.out.1.2.cut (p * h) h j2
      rw [e1] at hx1
      rw [e2] at hx2
      obtain ⟨A, hA⟩ : ∃ A, 2 * p * h = A := ⟨_, rfl⟩
      obtain ⟨B, hB⟩ : ∃ B, p * h = B := ⟨_, rfl⟩
      have hA2 : 2 * (p : Int) * (h : Int) = (A : Int) := by rw [← hA]; simp
      have hB2 : (p : Int) * (h : Int) = (B : Int) := by rw [← hB]; simp
      rw [hA] at j1 hx1 hx2
      rw [hB] at j2 hx1 hx2 hy1 hy2
      have hlt' : 2 * (p : Int) < (P : Int) := by omega
      have j1' : (A : Int) + (h : Int) ≤ (n : Int) := by omega
      have j2' : (B : Int) + (h : Int) ≤ (n : Int) := by omega
      have HA : Hid (∀ W, Fresh wb W → _) := fun W hW => same_any _ _ _ _ _ W (hx1.fresh hW) (hy1.fresh hW)
      have HB : Hid (∀ W, Fresh wb W → _) := fun W hW => same_any _ _ _ _ _ W (hx2.fresh hW) (hy2.fresh hW)
      have i9 : (A : Int) + (h : Int) ≤ (k9 : Int) := by omega
      have i9' : (A : Int) + (h : Int) ≤ (k9' : Int) := by omega
      have i6 : (B : Int) + (h : Int) ≤ (k6 : Int) := by omega
      have i6' : (B : Int) + (h : Int) ≤ (k6' : Int) := by omega
      have r0 : IntKind.i64.wrap (2 * (p : Int)) = 2 * (p : Int) := wrapId (by omega) (by omega)
      have r1 : IntKind.i64.wrap (A : Int) = (A : Int) := wrapId (by omega) (by omega)
      have r2 : IntKind.i64.wrap (B : Int) = (B : Int) := wrapId (by omega) (by omega)
      have r3 : IntKind.i64.wrap ((A : Int) + (h : Int)) = (A : Int) + (h : Int) := wrapId (by omega) (by omega)
      have r4 : IntKind.i64.wrap ((B : Int) + (h : Int)) = (B : Int) + (h : Int) := wrapId (by omega) (by omega)
      have s9 := fun W => run_cut8 b9 f9 n k9 A h q1 (by omega) W
      have s9' := fun W => run_cut8 b9' f9' n k9' A h q1 (by omega) W
      have s6 := fun W => run_cut8 b6 f6 n k6 B h q1 (by omega) W
      have s6' := fun W => run_cut8 b6' f6' n k6' B h q1 (by omega) W
      clear hx1 hx2 hy1 hy2 e1 e2 HHalf HL HRb
      go_wp2_with fail
      go_quiet ((first | (go_at_call 12; (with_reducible refine Calls.quiet_of (HA.out _ ?_)); exact HW.out.drewN _) | (go_at_call 12; (with_reducible refine Calls.quiet_of (HB.out _ ?_)); exact HW.out.drewN _)))
      go_wp2
      go_roundw
      case rel => exact ⟨p + 1, by omega, by go_num, HW.out.drewN _⟩
      case measure => simp [RowKit.intOf]; omega
    · clear HHalf HL HRb
      go_wp2
      go_ret
      exact ⟨rfl, HFb.out.trans HW.out (fun _ _ e => e)⟩

set_option maxRecDepth 100000 in
theorem contract (H : Type) (enc : TypeId × Value → H) (W : World) (base : Nat) (args : Array Value) (ds gs : List (DataW H)) (before : List MemPlace)
    (hval : ∀ (j : Nat) t v, Tryd.f8.params[j]? = some t → args[j]? = some v → Value.okWide Tryd.prog W .any base t v)
    (hW : DataW.Whole enc Tryd.prog Tryd.f8.params.toList Rows.ropeStretchesSpec.vars false W args.toList ds gs before) 
    (hsz : (DataW.weightsEach Tryd.prog (Tryd.f8.params.toList ++ []) (ds ++ gs)).all (· ≤ reachBytes) = true) (hL : laidMetH Tryd.prog Rows.ropeStretchesRow.laid W) :
    Calls Tryd.prog 8 args W fun e W' => ∃ v, e = .returned v ∧ Rows.ropeStretchesSpec.post enc Tryd.prog Tryd.f8 false true false false W args v W' := by
  have hW' := hW
  obtain ⟨p, q, hA0, hV, rfl, hfz, hnd⟩ := hW
  have hA : DataW.TrodAll enc Tryd.prog W 0 (fun _ => true) true Tryd.f8.params.toList args.toList ds p := hA0
  rw [Tryd.params8] at hA hval hsz
  obtain ⟨rfl, rfl⟩ := trodVars_none hV
  obtain ⟨v0, v1, v2, d0, d1, d2, p0, p1, p2, rfl, rfl, rfl, h0, h1, h2⟩ := trodAll_three hA
  obtain ⟨x0, rfl, rfl, rfl, w0⟩ := open_int Tryd.underlying3 (hval 0 3 v0 rfl rfl) h0
  obtain ⟨x1, rfl, rfl, rfl, w1⟩ := open_int Tryd.underlying3 (hval 1 3 v1 rfl rfl) h1
  obtain ⟨a0, a1, y0, y1, n0, rfl, rfl, rfl, q0, q1⟩ := open_agg2 Tryd.underlying44 (by kernel_rfl) (by kernel_rfl) (hval 2 44 v2 rfl rfl) h2
  obtain ⟨num, e0, _, _⟩ := DataW.trod_int Tryd.underlying3 q0
  obtain ⟨den, e1, _, _⟩ := DataW.trod_int Tryd.underlying3 q1
  simp only [List.cons.injEq, and_true] at e0 e1
  subst e0 e1
  refine (walk x0 x1 num den W (sin_of_laid hL)).mono fun e W' ⟨he, hk⟩ => ?_
  subst he
  exact ⟨_, rfl, post_law rfl (by kernel_rfl) (by kernel_rfl) hW' rfl hk⟩

set_option maxRecDepth 100000 in
theorem laid_met (os : Os) : laidMet Tryd.prog Rows.ropeStretchesRow.laid ((layIn (World.holding Tryd.prog os ⟨#[], #[], []⟩)).forCall (fun _ _ => 0) ⟨#[], #[.int .i64 0, .int .i64 0, .agg #[.int .i64 0, .int .i64 0]], []⟩).memory :=
  laidMet_of_run' 8 (by kernel_rfl) (by kernel_rfl)
set_option maxRecDepth 100000 in
theorem reads (os : Os) {H : Type} (enc : TypeId × Value → H) : ∃ places, DataW.whole enc Tryd.prog ((layIn (World.holding Tryd.prog os ⟨#[], #[], []⟩)).forCall (fun _ _ => 0) ⟨#[], #[.int .i64 0, .int .i64 0, .agg #[.int .i64 0, .int .i64 0]], []⟩).memory Tryd.f8.params.toList Rows.ropeStretchesSpec.vars false (#[.int .i64 0, .int .i64 0, .agg #[.int .i64 0, .int .i64 0]] : Array Value).toList 8 = some ([.lit (.int .i64 0), .lit (.int .i64 0), .agg [.lit (.int .i64 0), .lit (.int .i64 0)]], [], places) :=
  ⟨[], by kernel_rfl⟩

set_option maxRecDepth 100000 in
theorem lifted (os : Os) (started : os.Started) (H : Type) (enc : TypeId × Value → H) (F : Stop.Interp) :
    ReturnsInHanded {} Tryd.checked os 8 .any ((OpenSpec.ofChange Rows.ropeStretchesSpec).preRow enc Tryd.prog Tryd.f8 Rows.ropeStretchesRow.domain false Rows.ropeStretchesRow.laid) (((OpenSpec.ofChange Rows.ropeStretchesSpec).at F).post enc Tryd.prog Tryd.f8 false true false false) := by
  obtain ⟨places, hx⟩ := reads os enc
  refine returnsInHanded_of_row (C := Tryd.checked) (s := OpenSpec.ofChange Rows.ropeStretchesSpec) Tryd.own started (by kernel_rfl) Tryd.func8
    (witness_row_at (enc := enc) (C := Tryd.checked) false (layIn (World.holding Tryd.prog os ⟨#[], #[], []⟩)) #[.int .i64 0, .int .i64 0, .agg #[.int .i64 0, .int .i64 0]] rfl (by kernel_rfl) (by kernel_rfl) (by kernel_rfl)
      (OpenSpec.preRow_of_cond 8 hx (by kernel_rfl) (fun k hk => by cases hk) (by kernel_rfl) (laid_met os))) ?_
  intro W base args ds gs before hval hW _ hc hsz hL _ _
  exact contract H enc W base args ds gs before hval hW hsz hL

theorem said : Rows.RopeStretchesSaid :=
  OpenClaim.holds_of_cond 8 Tryd.f8 rfl rfl rfl rfl rfl rfl rfl ⟨rfl, rfl, rfl, rfl, rfl⟩ rfl rfl rfl rfl rfl (by kernel_rfl) Tryd.func8 (by kernel_rfl)
    (of_decide_eq_true (by kernel_rfl)) (by unfold Func.isWrapper; first | (rw [if_pos (by decide +kernel)]; kernel_rfl) | (rw [if_neg (by decide +kernel)]; exact ⟨rfl, rfl⟩))
    (fun os started H enc _ F => by rw [OpenClaim.pre_eq_preRow]; exact lifted os started H enc F)

theorem plain (f : FuncId) (fn : Func) (hf : Tryd.pinned.checked.prog.funcNamed Rows.ropeStretchesRow.func = some f) (hfn : Tryd.pinned.checked.prog.funcs[f]? = some fn) :
    false = Tryd.pinned.checked.prog.looks [] ∧ ∀ (j : Nat) t, fn.params[j]? = some t → Tryd.pinned.checked.prog.wantsStandIn t = false := by
  obtain rfl : f = 8 := Option.some.inj ((show Tryd.prog.funcNamed Rows.ropeStretchesRow.func = some 8 by kernel_rfl).symm.trans hf) |>.symm
  obtain rfl : fn = Tryd.f8 := (Option.some.inj (Tryd.func8.symm.trans hfn)).symm
  refine ⟨by kernel_rfl, fun j t ht => ?_⟩
  have hall : (Tryd.f8.params.toList.all fun u => !Tryd.prog.wantsStandIn u) = true := by kernel_rfl
  exact (show Tryd.prog.wantsStandIn t = false by simpa using List.all_eq_true.1 hall t (Array.mem_toList_iff.2 (Array.mem_of_getElem? ht)))

theorem card : Rows.RopeStretchesCardSaid :=
  Claim7.holds_tied_plain_at .later [] _ _ _ _ said (fun _ h => by cases h) (by kernel_rfl) (fun _ h => by cases h) ropeStretches_row_tie rfl ⟨rfl, rfl⟩ (by kernel_rfl) rfl plain (by kernel_rfl)

end Go.Proofs.YtkemaofclahaiaaDoor.RStretches
namespace Go.Proofs.YtkemaofclahaiaaDoor
theorem ropeStretches_card : Rows.RopeStretchesCardSaid := RStretches.card
end Go.Proofs.YtkemaofclahaiaaDoor
