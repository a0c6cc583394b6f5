/-
  For every int64 x the statement FixedPowers answers true: awake does, and Exp2 answers as the document says; its card, tied to the program's text.
-/
import Derived.Test.YtohimhojieeloaaDoorLay
import Derived.Test.YtohimhojieeloaaDoorFlr
namespace Go.Proofs.YtohimhojieeloaaDoor.Powers
open Go.ChangeShapes Go.WideShapes Go.ChangeAt Go.RowKit

set_option maxHeartbeats 800000 in
theorem refExp2_far (x : Int) (w : World) (hx : I64 x) (hn : x ≤ 0) (hf : 31 ≤ -(x / 65536)) :
    Calls Tryd.prog 29 #[.int .i64 x] w fun e w' => e = .returned (.int .i64 0) ∧ Drew w w' := by
  obtain ⟨x0, x1⟩ := hx
  have t0 : 0 ≤ x % 65536 := by omega
  have t1 : x % 65536 ≤ 65535 := by omega
  obtain ⟨a0, a1⟩ := polyA_bound t0 t1
  obtain ⟨m0, m1⟩ := mul_bound a0 a1 t0 t1
  obtain ⟨b0, b1⟩ := polyB_bound t0 t1
  obtain ⟨k0, k1⟩ := mul_bound b0 b1 t0 t1
  unfold polyB at b0 b1 k0 k1
  unfold polyA at a0 a1 m0 m1 b0 b1 k0 k1
  go_enter Tryd.func29, Tryd.ntmps29
  go_wp2_with fail
  refine (refFloor_ok x 65536 _ ⟨x0, x1⟩ (by omega) (by omega)).mono ?_
  rintro e w1 ⟨rfl, hw1⟩
  go_wp2
  go_ret
  exact ⟨rfl, hw1⟩

theorem half_pow (c : Int) (j : Nat) : c / 2 ^ j / 2 = c / 2 ^ (j + 1) := by
  rw [Int.ediv_ediv_of_nonneg (by exact Int.le_of_lt (Int.pow_pos (by omega))), Int.pow_succ]

set_option maxHeartbeats 800000 in
theorem refExp2_near (x y : Int) (n : Nat) (t : Int) (w : World) (hx : I64 x) (hy : y = min x 0) (hq : y / 65536 = -(n : Int)) (hn' : n < 31) (ht : y % 65536 = t) :
    Calls Tryd.prog 29 #[.int .i64 x] w fun e w' => e = .returned (.int .i64 (polyC t / 2 ^ n)) ∧ Drew w w' := by
  obtain ⟨x0, x1⟩ := hx
  have t0 : 0 ≤ t := by omega
  have t1 : t ≤ 65535 := by omega
  obtain ⟨c0, c1⟩ := polyC_bound t0 t1
  obtain ⟨a0, a1⟩ := polyA_bound t0 t1
  obtain ⟨m0, m1⟩ := mul_bound a0 a1 t0 t1
  obtain ⟨b0, b1⟩ := polyB_bound t0 t1
  obtain ⟨k0, k1⟩ := mul_bound b0 b1 t0 t1
  have ea : 241400000 + 84941200 * t / 65536 = polyA t := rfl
  have eb : 747400624 + polyA t * t / 65536 = polyB t := rfl
  have ec : 1073741824 + polyB t * t / 65536 = polyC t := rfl
  have hf := fun w => refFloor_ok y 65536 w ⟨by omega, by omega⟩ (by omega) (by omega)
  rw [hq, ht] at hf
  generalize polyA t = A at *
  generalize polyB t = B at *
  generalize polyC t = C at *
  rcases Int.lt_or_le 0 x with h | h
  · obtain rfl : y = 0 := by omega
    clear hy hq ht
    go_enter Tryd.func29, Tryd.ntmps29
    go_wp2_with fail
    refine (hf _).mono ?_
    rintro e w1 ⟨rfl, hw1⟩
    have HK : Hid (Drew w w1) := hw1
    clear hw1
    go_wp2
    go_loop [9, 10] (fun c i => ∃ j : Nat, j ≤ n ∧ i = .int .i64 j ∧ c = .int .i64 (C / 2 ^ j)) (fun _ i => n - (intOf i).toNat)
    case atStart => exact ⟨0, by omega, rfl, by rw [show (2 : Int) ^ 0 = 1 from rfl, Int.ediv_one]⟩
    case round =>
      obtain ⟨j, hj, rfl, rfl⟩ := hrel
      by_cases hlt : j < n
      · have HE : Hid (C / 2 ^ j / 2 = C / 2 ^ (j + 1)) := half_pow C j
        have hpos : 0 ≤ C / 2 ^ j := Int.ediv_nonneg (by omega) (Int.le_of_lt (Int.pow_pos (by omega)))
        have hle : C / 2 ^ j ≤ C := Int.ediv_le_self _ (by omega)
        generalize C / 2 ^ j = D at *
        go_wp2
        go_round
        case rel => exact ⟨j + 1, by omega, by go_num, by rw [← HE.out]⟩
        case measure => simp [intOf]; omega
      · obtain rfl : j = n := by omega
        go_wp2
        go_ret
        exact ⟨rfl, HK.out⟩
  · obtain rfl : y = x := by omega
    clear hy hq ht
    go_enter Tryd.func29, Tryd.ntmps29
    go_wp2_with fail
    refine (hf _).mono ?_
    rintro e w1 ⟨rfl, hw1⟩
    have HK : Hid (Drew w w1) := hw1
    clear hw1
    go_wp2
    go_loop [9, 10] (fun c i => ∃ j : Nat, j ≤ n ∧ i = .int .i64 j ∧ c = .int .i64 (C / 2 ^ j)) (fun _ i => n - (intOf i).toNat)
    case atStart => exact ⟨0, by omega, rfl, by rw [show (2 : Int) ^ 0 = 1 from rfl, Int.ediv_one]⟩
    case round =>
      obtain ⟨j, hj, rfl, rfl⟩ := hrel
      by_cases hlt : j < n
      · have HE : Hid (C / 2 ^ j / 2 = C / 2 ^ (j + 1)) := half_pow C j
        have hpos : 0 ≤ C / 2 ^ j := Int.ediv_nonneg (by omega) (Int.le_of_lt (Int.pow_pos (by omega)))
        have hle : C / 2 ^ j ≤ C := Int.ediv_le_self _ (by omega)
        generalize C / 2 ^ j = D at *
        go_wp2
        go_round
        case rel => exact ⟨j + 1, by omega, by go_num, by rw [← HE.out]⟩
        case measure => simp [intOf]; omega
      · obtain rfl : j = n := by omega
        go_wp2
        go_ret
        exact ⟨rfl, HK.out⟩

theorem refExp2_any (x : Int) (w : World) (hx : I64 x) :
    Calls Tryd.prog 29 #[.int .i64 x] w fun e w' => e = .returned (.int .i64 (exp2 x)) ∧ Drew w w' := by
  unfold exp2
  by_cases hf : 31 ≤ -(min x 0 / 65536)
  · rw [if_pos hf]
    exact refExp2_far x w hx (by omega) (by rw [show min x 0 = x by omega] at hf; exact hf)
  · rw [if_neg hf]
    have hq : min x 0 / 65536 = -(((-(min x 0 / 65536)).toNat : Nat) : Int) := by omega
    exact refExp2_near x _ _ _ w hx rfl hq (by omega) rfl

set_option maxHeartbeats 800000 in
theorem walk (x : Int) (w : World) (hB : Bend w) (hx : I64 x) :
    Calls Tryd.prog 7 #[.int .i64 x] w fun e w' => e = .returned (.bool true) ∧ Fresh w w' := by
  have hp := hB.pos
  go_enter Tryd.func7, Tryd.ntmps7
  go_wp2_with fail
  refine (awake_any _ hB).mono ?_
  rintro e w1 ⟨rfl, h1⟩
  have hB1 := hB.kept h1 (fun e => e)
  go_wp2_with fail
  refine (exp2_any _ _ hB1 hx).mono ?_
  rintro e w2 ⟨rfl, h2⟩
  go_wp2_with fail
  refine (refExp2_any _ _ hx).mono ?_
  rintro e w3 ⟨rfl, h3⟩
  go_wp2
  go_ret
  exact ⟨rfl, h1.trans (h2.trans h3).fresh (fun _ _ e => e)⟩

theorem contract (H : Type) (enc : TypeId × Value → H) (W : World) (base : Nat) (args : Array Value) (ds gs : List (DataW H)) (before : List MemPlace)
    (hval : ∀ (j : Nat) t v, Tryd.f7.params[j]? = some t → args[j]? = some v → Value.okWide Tryd.prog W .any base t v)
    (hW : DataW.Whole enc Tryd.prog Tryd.f7.params.toList Rows.fixedPowersSpec.vars false W args.toList ds gs before) 
    (hsz : (DataW.weightsEach Tryd.prog (Tryd.f7.params.toList ++ []) (ds ++ gs)).all (· ≤ reachBytes) = true) (hL : laidMetH Tryd.prog Rows.fixedPowersRow.laid W) :
    Calls Tryd.prog 7 args W fun e W' => ∃ v, e = .returned v ∧ Rows.fixedPowersSpec.post enc Tryd.prog Tryd.f7 false true false false W args v W' := by
  have hW' := hW
  obtain ⟨p, q, hA0, hV, rfl, hfz, hnd⟩ := hW
  have hA : DataW.TrodAll enc Tryd.prog W 0 (fun _ => true) true Tryd.f7.params.toList args.toList ds p := hA0
  rw [Tryd.params7] at hA hval hsz
  obtain ⟨rfl, rfl⟩ := trodVars_none hV
  obtain ⟨v0, d0, rfl, rfl, h0⟩ := trodAll_one hA
  obtain ⟨x0, rfl, rfl, rfl, w0⟩ := open_int Tryd.underlying2 (hval 0 2 v0 rfl rfl) h0
  refine (walk x0 W (bend_of_laid hL) (i64_of w0)).mono fun e W' ⟨he, hk⟩ => ?_
  subst he
  exact ⟨_, rfl, post_law rfl (by kernel_rfl) (by kernel_rfl) hW' rfl hk⟩

theorem laid_met (os : Os) : laidMet Tryd.prog Rows.fixedPowersRow.laid ((layIn (World.holding Tryd.prog os ⟨#[], #[], []⟩)).forCall (fun _ _ => 0) ⟨#[], #[.int .i64 0], []⟩).memory :=
  laidMet_of_run' 8 (by kernel_rfl) (by kernel_rfl)
theorem reads (os : Os) {H : Type} (enc : TypeId × Value → H) : ∃ places, DataW.whole enc Tryd.prog ((layIn (World.holding Tryd.prog os ⟨#[], #[], []⟩)).forCall (fun _ _ => 0) ⟨#[], #[.int .i64 0], []⟩).memory Tryd.f7.params.toList Rows.fixedPowersSpec.vars false (#[.int .i64 0] : Array Value).toList 8 = some ([.lit (.int .i64 0)], [], places) :=
  ⟨[], by kernel_rfl⟩

set_option maxRecDepth 100000 in
theorem lifted (os : Os) (started : os.Started) (H : Type) (enc : TypeId × Value → H) (F : Stop.Interp) :
    ReturnsInHanded {} Tryd.checked os 7 .any ((OpenSpec.ofChange Rows.fixedPowersSpec).preRow enc Tryd.prog Tryd.f7 Rows.fixedPowersRow.domain false Rows.fixedPowersRow.laid) (((OpenSpec.ofChange Rows.fixedPowersSpec).at F).post enc Tryd.prog Tryd.f7 false true false false) := by
  obtain ⟨places, hx⟩ := reads os enc
  refine returnsInHanded_of_row (C := Tryd.checked) (s := OpenSpec.ofChange Rows.fixedPowersSpec) Tryd.own started (by kernel_rfl) Tryd.func7
    (witness_row_at (enc := enc) (C := Tryd.checked) false (layIn (World.holding Tryd.prog os ⟨#[], #[], []⟩)) #[.int .i64 0] rfl (by kernel_rfl) (by kernel_rfl) (by kernel_rfl)
      (OpenSpec.preRow_of_cond 8 hx (by kernel_rfl) (fun k hk => by cases hk) (by kernel_rfl) (laid_met os))) ?_
  intro W base args ds gs before hval hW _ hc hsz hL _ _
  exact contract H enc W base args ds gs before hval hW hsz hL

theorem said : Rows.FixedPowersSaid :=
  OpenClaim.holds_of_cond 7 Tryd.f7 rfl rfl rfl rfl rfl rfl rfl ⟨rfl, rfl, rfl, rfl, rfl⟩ rfl rfl rfl rfl rfl (by kernel_rfl) Tryd.func7 (by kernel_rfl)
    (of_decide_eq_true (by kernel_rfl)) (by unfold Func.isWrapper; first | (rw [if_pos (by decide +kernel)]; kernel_rfl) | (rw [if_neg (by decide +kernel)]; exact ⟨rfl, rfl⟩))
    (fun os started H enc _ F => by rw [OpenClaim.pre_eq_preRow]; exact lifted os started H enc F)

theorem plain (f : FuncId) (fn : Func) (hf : Tryd.pinned.checked.prog.funcNamed Rows.fixedPowersRow.func = some f) (hfn : Tryd.pinned.checked.prog.funcs[f]? = some fn) :
    false = Tryd.pinned.checked.prog.looks [] ∧ ∀ (j : Nat) t, fn.params[j]? = some t → Tryd.pinned.checked.prog.wantsStandIn t = false := by
  obtain rfl : f = 7 := Option.some.inj ((show Tryd.prog.funcNamed Rows.fixedPowersRow.func = some 7 by kernel_rfl).symm.trans hf) |>.symm
  obtain rfl : fn = Tryd.f7 := (Option.some.inj (Tryd.func7.symm.trans hfn)).symm
  refine ⟨by kernel_rfl, fun j t ht => ?_⟩
  have hall : (Tryd.f7.params.toList.all fun u => !Tryd.prog.wantsStandIn u) = true := by kernel_rfl
  exact (show Tryd.prog.wantsStandIn t = false by simpa using List.all_eq_true.1 hall t (Array.mem_toList_iff.2 (Array.mem_of_getElem? ht)))

theorem card : Rows.FixedPowersCardSaid :=
  Claim7.holds_tied_plain_at .later [] _ _ _ _ said (fun _ h => by cases h) (by kernel_rfl) (fun _ h => by cases h) fixedPowers_row_tie rfl ⟨rfl, rfl⟩ (by kernel_rfl) rfl plain (by kernel_rfl)

end Go.Proofs.YtohimhojieeloaaDoor.Powers
namespace Go.Proofs.YtohimhojieeloaaDoor
theorem fixedPowers_card : Rows.FixedPowersCardSaid := Powers.card
end Go.Proofs.YtohimhojieeloaaDoor
