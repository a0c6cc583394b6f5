/-
  For all int64 x and y the statement FixedRises answers true: awake does, Exp2 rises, whole numbers are exact, and one less is half, rounded down; its card, tied to the program's text.
-/
import Derived.Test.YtohimhojieeloaaDoorLay
namespace Go.Proofs.YtohimhojieeloaaDoor.Rises
open Go.ChangeShapes Go.WideShapes Go.ChangeAt Go.RowKit

theorem half_pow (c : Int) (j : Nat) : c / 2 ^ j / 2 = c / 2 ^ (j + 1) := by
  rw [Int.ediv_ediv_of_nonneg (by exact Int.le_of_lt (Int.pow_pos (by omega))), Int.pow_succ]
theorem half_pow' (c : Int) (j : Nat) : c / 2 / 2 ^ j = c / 2 ^ (j + 1) := by
  rw [Int.ediv_ediv_of_nonneg (by omega), Int.pow_succ, Int.mul_comm]
theorem pow_pos2 (j : Nat) : 0 < (2 : Int) ^ j := Int.pow_pos (by omega)

/-- Exp2 without its test for far numbers. -/
theorem exp2_eq (x : Int) (hx : x ≤ 0) : exp2 x = polyC (x % 65536) / 2 ^ (-(x / 65536)).toNat := by
  unfold exp2
  rw [show min x 0 = x by omega]
  by_cases h : 31 ≤ -(x / 65536)
  · rw [if_pos h]
    obtain ⟨c0, c1⟩ := polyC_bound (t := x % 65536) (by omega) (by omega)
    symm
    apply Int.ediv_eq_zero_of_lt (by omega)
    have : (2 : Int) ^ 31 ≤ 2 ^ (-(x / 65536)).toNat := by
      have h2 : 2 ^ 31 ≤ 2 ^ (-(x / 65536)).toNat := Nat.pow_le_pow_right (by omega) (by omega)
      have := Int.ofNat_le.2 h2
      simpa using this
    omega
  · rw [if_neg h]
theorem polyC_mono {s t : Int} (s0 : 0 ≤ s) (hst : s ≤ t) (t1 : t ≤ 65535) : polyC s ≤ polyC t := by
  have hA : polyA s ≤ polyA t := by unfold polyA; omega
  have hA0 := (polyA_bound s0 (by omega : s ≤ 65535)).1
  have hAt0 := (polyA_bound (by omega : 0 ≤ t) t1).1
  have hB : polyB s ≤ polyB t := by
    have := Int.mul_le_mul hA hst s0 hAt0
    unfold polyB
    omega
  have hBt0 := (polyB_bound (by omega : 0 ≤ t) t1).1
  have := Int.mul_le_mul hB hst s0 hBt0
  unfold polyC
  omega
theorem exp2_mono0 {x y : Int} (h : x ≤ y) (hy : y ≤ 0) : exp2 x ≤ exp2 y := by
  rw [exp2_eq x (by omega), exp2_eq y hy]
  obtain ⟨c0, c1⟩ := polyC_bound (t := x % 65536) (by omega) (by omega)
  obtain ⟨d0, d1⟩ := polyC_bound (t := y % 65536) (by omega) (by omega)
  by_cases e : x / 65536 = y / 65536
  · rw [e]
    exact Int.ediv_le_ediv (pow_pos2 _) (polyC_mono (by omega) (by omega) (by omega))
  · obtain ⟨k, hk⟩ : ∃ k : Nat, (-(x / 65536)).toNat = (-(y / 65536)).toNat + 1 + k := ⟨(-(x / 65536)).toNat - (-(y / 65536)).toNat - 1, by omega⟩
    rw [hk, Int.pow_add, ← Int.ediv_ediv_of_nonneg (Int.le_of_lt (pow_pos2 _)), ← half_pow']
    generalize polyC (x % 65536) = c at *
    generalize polyC (y % 65536) = d at *
    have h1 : c / 2 / 2 ^ (-(y / 65536)).toNat ≤ d / 2 ^ (-(y / 65536)).toNat := Int.ediv_le_ediv (pow_pos2 _) (by omega)
    have h2 : 0 ≤ c / 2 / 2 ^ (-(y / 65536)).toNat := Int.ediv_nonneg (by omega) (Int.le_of_lt (pow_pos2 _))
    exact Int.le_trans (Int.ediv_le_self _ h2) h1
theorem exp2_zero : exp2 0 = 1073741824 := by decide
theorem exp2_over {x : Int} (h : 0 ≤ x) : exp2 x = 1073741824 := by
  rw [← exp2_zero]
  unfold exp2
  rw [show min x 0 = 0 by omega, show min (0 : Int) 0 = 0 by omega]
theorem exp2_le (x : Int) : exp2 x ≤ 1073741824 := by
  rcases Int.lt_or_le 0 x with h | h
  · rw [exp2_over (by omega)]; omega
  · rw [← exp2_zero]; exact exp2_mono0 h (by omega)
theorem exp2_nonneg (x : Int) : 0 ≤ exp2 x := by
  rcases Int.lt_or_le 0 x with h | h
  · rw [exp2_over (by omega)]; omega
  · rw [exp2_eq x h]
    obtain ⟨c0, c1⟩ := polyC_bound (t := x % 65536) (by omega) (by omega)
    exact Int.ediv_nonneg (by omega) (Int.le_of_lt (pow_pos2 _))
theorem exp2_mono {x y : Int} (h : x ≤ y) : exp2 x ≤ exp2 y := by
  rcases Int.lt_or_le 0 y with k | k
  · rw [exp2_over (x := y) (by omega)]; exact exp2_le x
  · exact exp2_mono0 h k
theorem exp2_half {x : Int} (h : x ≤ 0) : exp2 (x - 65536) = exp2 x / 2 := by
  rw [exp2_eq x h, exp2_eq (x - 65536) (by omega), half_pow, show (x - 65536) % 65536 = x % 65536 by omega,
    show (-((x - 65536) / 65536)).toNat = (-(x / 65536)).toNat + 1 by omega]
theorem exp2_whole (n : Nat) : exp2 (-65536 * (n : Int)) = 1073741824 / 2 ^ n := by
  rw [exp2_eq _ (by omega), show -65536 * (n : Int) % 65536 = 0 by omega, show (-(-65536 * (n : Int) / 65536)).toNat = n by omega]
  rfl

set_option maxHeartbeats 1000000 in
theorem walk (x y : Int) (w : World) (hB : Bend w) (hx : I64 x) (hy : I64 y) :
    Calls Tryd.prog 8 #[.int .i64 x, .int .i64 y] w fun e w' => e = .returned (.bool true) ∧ Fresh w w' := by
  go_enter Tryd.func8, Tryd.ntmps8
  go_wp2_with fail
  refine (awake_any _ hB).mono ?_
  rintro e w1 ⟨rfl, h1⟩
  have hB1 := hB.kept h1 (fun e => e)
  go_wp2_with fail
  refine (exp2_any 0 _ hB1 ⟨by decide, by decide⟩).mono ?_
  rintro e w2 ⟨rfl, h2⟩
  rw [exp2_zero]
  have hB2 := hB1.drew h2
  by_cases hxy : x ≤ y
  · go_wp2_with fail
    refine (exp2_any x _ hB2 hx).mono ?_
    rintro e w3 ⟨rfl, h3⟩
    have hB3 := hB2.drew h3
    go_wp2_with fail
    refine (exp2_any y _ hB3 hy).mono ?_
    rintro e w4 ⟨rfl, h4⟩
    have hB4 := hB3.drew h4
    have HK : Hid (Fresh w w4) := h1.trans ((h2.trans h3).trans h4).fresh (fun _ _ e => e)
    clear h1 h2 h3 h4
    have e1 := exp2_mono hxy
    have e2 := exp2_nonneg x
    have e3 := exp2_le y
    by_cases hc : 0 < x ∨ x < -9223372036854710272
    · generalize exp2 x = a at *
      generalize exp2 y = b at *
      by_cases hc' : 0 < x
      · go_wp2
        go_ret
        exact ⟨rfl, HK.out⟩
      · have hc'' : x < -9223372036854710272 := by omega
        go_wp2
        go_ret
        exact ⟨rfl, HK.out⟩
    · obtain ⟨m, rfl⟩ : ∃ m : Nat, x = -(m : Int) := ⟨x.natAbs, by omega⟩
      obtain ⟨n, hn, hn'⟩ : ∃ n : Nat, (m : Int) / 65536 % 64 = (n : Int) ∧ n < 64 := ⟨m / 65536 % 64, by omega, by omega⟩
      obtain ⟨x0, x1⟩ := hx
      have hw := exp2_whole n
      have hh := exp2_half (x := -(m : Int)) (by omega)
      have hE := fun w hB => exp2_any (-65536 * (n : Int)) w hB ⟨by omega, by omega⟩
      have hE2 := fun w hB => exp2_any (-(m : Int) - 65536) w hB ⟨by omega, by omega⟩
      rw [hw] at hE
      rw [hh] at hE2
      clear hw hh
      generalize exp2 (-(m : Int)) = a at *
      generalize exp2 y = b at *
      go_wp2_with fail
      refine (hE _ hB4).mono ?_
      rintro e w5 ⟨rfl, h5⟩
      have hB5 := hB4.drew h5
      go_wp2_with fail
      refine (hE2 _ hB5).mono ?_
      rintro e w6 ⟨rfl, h6⟩
      go_wp2
      go_ret
      exact ⟨rfl, HK.out.trans (h5.trans h6).fresh (fun _ _ e => e)⟩
  · go_wp2_with fail
    refine (exp2_any y _ hB2 hy).mono ?_
    rintro e w3 ⟨rfl, h3⟩
    have hB3 := hB2.drew h3
    go_wp2_with fail
    refine (exp2_any x _ hB3 hx).mono ?_
    rintro e w4 ⟨rfl, h4⟩
    have hB4 := hB3.drew h4
    have HK : Hid (Fresh w w4) := h1.trans ((h2.trans h3).trans h4).fresh (fun _ _ e => e)
    clear h1 h2 h3 h4
    have e1 := exp2_mono (show y ≤ x by omega)
    have e2 := exp2_nonneg y
    have e3 := exp2_le x
    by_cases hc : 0 < y ∨ y < -9223372036854710272
    · generalize exp2 y = a at *
      generalize exp2 x = b at *
      by_cases hc' : 0 < y
      · go_wp2
        go_ret
        exact ⟨rfl, HK.out⟩
      · have hc'' : y < -9223372036854710272 := by omega
        go_wp2
        go_ret
        exact ⟨rfl, HK.out⟩
    · obtain ⟨m, rfl⟩ : ∃ m : Nat, y = -(m : Int) := ⟨y.natAbs, by omega⟩
      obtain ⟨n, hn, hn'⟩ : ∃ n : Nat, (m : Int) / 65536 % 64 = (n : Int) ∧ n < 64 := ⟨m / 65536 % 64, by omega, by omega⟩
      obtain ⟨x0, x1⟩ := hy
      have hw := exp2_whole n
      have hh := exp2_half (x := -(m : Int)) (by omega)
      have hE := fun w hB => exp2_any (-65536 * (n : Int)) w hB ⟨by omega, by omega⟩
      have hE2 := fun w hB => exp2_any (-(m : Int) - 65536) w hB ⟨by omega, by omega⟩
      rw [hw] at hE
      rw [hh] at hE2
      clear hw hh
      generalize exp2 (-(m : Int)) = a at *
      generalize exp2 x = b at *
      go_wp2_with fail
      refine (hE _ hB4).mono ?_
      rintro e w5 ⟨rfl, h5⟩
      have hB5 := hB4.drew h5
      go_wp2_with fail
      refine (hE2 _ hB5).mono ?_
      rintro e w6 ⟨rfl, h6⟩
      go_wp2
      go_ret
      exact ⟨rfl, HK.out.trans (h5.trans h6).fresh (fun _ _ e => e)⟩

theorem contract (H : Type) (enc : TypeId × Value → H) (W : World) (base : Nat) (args : Array Value) (ds gs : List (DataW H)) (before : List MemPlace)
    (hval : ∀ (j : Nat) t v, Tryd.f8.params[j]? = some t → args[j]? = some v → Value.okWide Tryd.prog W .any base t v)
    (hW : DataW.Whole enc Tryd.prog Tryd.f8.params.toList Rows.fixedRisesSpec.vars false W args.toList ds gs before) 
    (hsz : (DataW.weightsEach Tryd.prog (Tryd.f8.params.toList ++ []) (ds ++ gs)).all (· ≤ reachBytes) = true) (hL : laidMetH Tryd.prog Rows.fixedRisesRow.laid W) :
    Calls Tryd.prog 8 args W fun e W' => ∃ v, e = .returned v ∧ Rows.fixedRisesSpec.post enc Tryd.prog Tryd.f8 false true false false W args v W' := by
  have hW' := hW
  obtain ⟨p, q, hA0, hV, rfl, hfz, hnd⟩ := hW
  have hA : DataW.TrodAll enc Tryd.prog W 0 (fun _ => true) true Tryd.f8.params.toList args.toList ds p := hA0
  rw [Tryd.params8] at hA hval hsz
  obtain ⟨rfl, rfl⟩ := trodVars_none hV
  obtain ⟨v0, v1, d0, d1, p0, p1, rfl, rfl, rfl, h0, h1⟩ := trodAll_two hA
  obtain ⟨x0, rfl, rfl, rfl, w0⟩ := open_int Tryd.underlying2 (hval 0 2 v0 rfl rfl) h0
  obtain ⟨x1, rfl, rfl, rfl, w1⟩ := open_int Tryd.underlying2 (hval 1 2 v1 rfl rfl) h1
  refine (walk x0 x1 W (bend_of_laid hL) (i64_of w0) (i64_of w1)).mono fun e W' ⟨he, hk⟩ => ?_
  subst he
  exact ⟨_, rfl, post_law rfl (by kernel_rfl) (by kernel_rfl) hW' rfl hk⟩

theorem laid_met (os : Os) : laidMet Tryd.prog Rows.fixedRisesRow.laid ((layIn (World.holding Tryd.prog os ⟨#[], #[], []⟩)).forCall (fun _ _ => 0) ⟨#[], #[.int .i64 0, .int .i64 0], []⟩).memory :=
  laidMet_of_run' 8 (by kernel_rfl) (by kernel_rfl)
theorem reads (os : Os) {H : Type} (enc : TypeId × Value → H) : ∃ places, DataW.whole enc Tryd.prog ((layIn (World.holding Tryd.prog os ⟨#[], #[], []⟩)).forCall (fun _ _ => 0) ⟨#[], #[.int .i64 0, .int .i64 0], []⟩).memory Tryd.f8.params.toList Rows.fixedRisesSpec.vars false (#[.int .i64 0, .int .i64 0] : Array Value).toList 8 = some ([.lit (.int .i64 0), .lit (.int .i64 0)], [], places) :=
  ⟨[], by kernel_rfl⟩

set_option maxRecDepth 100000 in
theorem lifted (os : Os) (started : os.Started) (H : Type) (enc : TypeId × Value → H) (F : Stop.Interp) :
    ReturnsInHanded {} Tryd.checked os 8 .any ((OpenSpec.ofChange Rows.fixedRisesSpec).preRow enc Tryd.prog Tryd.f8 Rows.fixedRisesRow.domain false Rows.fixedRisesRow.laid) (((OpenSpec.ofChange Rows.fixedRisesSpec).at F).post enc Tryd.prog Tryd.f8 false true false false) := by
  obtain ⟨places, hx⟩ := reads os enc
  refine returnsInHanded_of_row (C := Tryd.checked) (s := OpenSpec.ofChange Rows.fixedRisesSpec) Tryd.own started (by kernel_rfl) Tryd.func8
    (witness_row_at (enc := enc) (C := Tryd.checked) false (layIn (World.holding Tryd.prog os ⟨#[], #[], []⟩)) #[.int .i64 0, .int .i64 0] rfl (by kernel_rfl) (by kernel_rfl) (by kernel_rfl)
      (OpenSpec.preRow_of_cond 8 hx (by kernel_rfl) (fun k hk => by cases hk) (by kernel_rfl) (laid_met os))) ?_
  intro W base args ds gs before hval hW _ hc hsz hL _ _
  exact contract H enc W base args ds gs before hval hW hsz hL

theorem said : Rows.FixedRisesSaid :=
  OpenClaim.holds_of_cond 8 Tryd.f8 rfl rfl rfl rfl rfl rfl rfl ⟨rfl, rfl, rfl, rfl, rfl⟩ rfl rfl rfl rfl rfl (by kernel_rfl) Tryd.func8 (by kernel_rfl)
    (of_decide_eq_true (by kernel_rfl)) (by unfold Func.isWrapper; first | (rw [if_pos (by decide +kernel)]; kernel_rfl) | (rw [if_neg (by decide +kernel)]; exact ⟨rfl, rfl⟩))
    (fun os started H enc _ F => by rw [OpenClaim.pre_eq_preRow]; exact lifted os started H enc F)

theorem plain (f : FuncId) (fn : Func) (hf : Tryd.pinned.checked.prog.funcNamed Rows.fixedRisesRow.func = some f) (hfn : Tryd.pinned.checked.prog.funcs[f]? = some fn) :
    false = Tryd.pinned.checked.prog.looks [] ∧ ∀ (j : Nat) t, fn.params[j]? = some t → Tryd.pinned.checked.prog.wantsStandIn t = false := by
  obtain rfl : f = 8 := Option.some.inj ((show Tryd.prog.funcNamed Rows.fixedRisesRow.func = some 8 by kernel_rfl).symm.trans hf) |>.symm
  obtain rfl : fn = Tryd.f8 := (Option.some.inj (Tryd.func8.symm.trans hfn)).symm
  refine ⟨by kernel_rfl, fun j t ht => ?_⟩
  have hall : (Tryd.f8.params.toList.all fun u => !Tryd.prog.wantsStandIn u) = true := by kernel_rfl
  exact (show Tryd.prog.wantsStandIn t = false by simpa using List.all_eq_true.1 hall t (Array.mem_toList_iff.2 (Array.mem_of_getElem? ht)))

theorem card : Rows.FixedRisesCardSaid :=
  Claim7.holds_tied_plain_at .later [] _ _ _ _ said (fun _ h => by cases h) (by kernel_rfl) (fun _ h => by cases h) fixedRises_row_tie rfl ⟨rfl, rfl⟩ (by kernel_rfl) rfl plain (by kernel_rfl)

end Go.Proofs.YtohimhojieeloaaDoor.Rises
namespace Go.Proofs.YtohimhojieeloaaDoor
theorem fixedRises_card : Rows.FixedRisesCardSaid := Rises.card
end Go.Proofs.YtohimhojieeloaaDoor
