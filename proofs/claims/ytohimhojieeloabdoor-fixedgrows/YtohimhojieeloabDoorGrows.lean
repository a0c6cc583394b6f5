/-
  For all int64 x and y and every int n the statement FixedGrows answers true: awake does, Log2 rises, of powers of two it is exact, and of twice as much it is 65536 more; its card, tied to the program's text.
-/
import Derived.Test.YtohimhojieeloabDoorLay
import Derived.Test.YtohimhojieeloabDoorLg
namespace Go.Proofs.YtohimhojieeloabDoor.Grows
open Go.ChangeShapes Go.WideShapes Go.ChangeAt Go.RowKit

theorem log2_pow (n : Nat) : (2 ^ n).log2 = n := log2_of (Nat.le_refl _) (Nat.pow_lt_pow_right (by omega) (by omega))
theorem lead_pow (n : Nat) : lead (2 ^ n) n = 1073741824 := by
  unfold lead
  split
  · rw [← Nat.pow_add, show n + (30 - n) = 30 by omega]
  · rw [Nat.pow_div (by omega) (by omega), show n - (n - 30) = 30 by omega]
theorem lrun_one : ∀ k, lrun (1073741824, 0) k = (1073741824, 0)
  | 0 => rfl
  | k + 1 => by
    show lstep (lrun (1073741824, 0) k) = _
    rw [lrun_one k]
    rfl
theorem lg_pow (n : Nat) : lg (2 ^ n) = 65536 * n := by
  unfold lg
  rw [log2_pow, lead_pow, lrun_one]
  show 65536 * n + 0 = _
  omega
theorem log2_double {x : Nat} (h1 : 1 ≤ x) : (2 * x).log2 = x.log2 + 1 := by
  have a := log2_le h1
  have b := log2_lt x
  apply log2_of
  · rw [Nat.pow_succ]; omega
  · rw [Nat.pow_succ]; omega
theorem lead_double (x n : Nat) : lead (2 * x) (n + 1) = lead x n := by
  unfold lead
  by_cases h : n + 1 ≤ 30
  · rw [if_pos h, if_pos (by omega), show 30 - n = 30 - (n + 1) + 1 by omega, Nat.pow_succ, Nat.mul_comm 2 x, Nat.mul_assoc, Nat.mul_comm 2]
  · rw [if_neg h]
    by_cases h2 : n ≤ 30
    · obtain rfl : n = 30 := by omega
      rw [if_pos h2]
      show 2 * x / 2 = x * 1
      omega
    · rw [if_neg h2, show n + 1 - 30 = n - 30 + 1 by omega, Nat.pow_succ, Nat.mul_comm (2 ^ (n - 30)) 2, Nat.mul_div_mul_left _ _ (by omega)]
theorem lg_double {x : Nat} (h1 : 1 ≤ x) : lg (2 * x) = lg x + 65536 := by
  unfold lg
  rw [log2_double h1, lead_double]
  omega

theorem lead_mono {x y n : Nat} (h : x ≤ y) : lead x n ≤ lead y n := by
  unfold lead
  split
  · exact Nat.mul_le_mul_right _ h
  · exact Nat.div_le_div_right h
theorem lrun_mono {m n : Nat} (h : m ≤ n) : ∀ k, (lrun (m, 0) k).2 < (lrun (n, 0) k).2 ∨ ((lrun (m, 0) k).2 = (lrun (n, 0) k).2 ∧ (lrun (m, 0) k).1 ≤ (lrun (n, 0) k).1)
  | 0 => Or.inr ⟨rfl, h⟩
  | k + 1 => by
    have hk := lrun_mono h k
    show (lstep (lrun (m, 0) k)).2 < (lstep (lrun (n, 0) k)).2 ∨ ((lstep (lrun (m, 0) k)).2 = (lstep (lrun (n, 0) k)).2 ∧ (lstep (lrun (m, 0) k)).1 ≤ (lstep (lrun (n, 0) k)).1)
    generalize lrun (m, 0) k = p at *
    generalize lrun (n, 0) k = q at *
    obtain ⟨a, b⟩ := p
    obtain ⟨c, d⟩ := q
    have hk : b < d ∨ (b = d ∧ a ≤ c) := hk
    have e1 : lstep (a, b) = if 2147483648 ≤ a * a / 1073741824 then (a * a / 1073741824 / 2, 2 * b + 1) else (a * a / 1073741824, 2 * b) := rfl
    have e2 : lstep (c, d) = if 2147483648 ≤ c * c / 1073741824 then (c * c / 1073741824 / 2, 2 * d + 1) else (c * c / 1073741824, 2 * d) := rfl
    have hm : b = d → a * a / 1073741824 ≤ c * c / 1073741824 := fun e => by
      have hac : a ≤ c := by omega
      exact Nat.div_le_div_right (Nat.mul_le_mul hac hac)
    rw [e1, e2]
    clear e1 e2
    generalize a * a / 1073741824 = A at *
    generalize c * c / 1073741824 = C at *
    split <;> split <;> dsimp only <;> omega
theorem lg_mono {x y : Nat} (h1 : 1 ≤ x) (h : x ≤ y) : lg x ≤ lg y := by
  have a := log2_le h1
  have b := log2_lt y
  have hle : x.log2 ≤ y.log2 := by
    rcases Nat.lt_or_ge y.log2 x.log2 with c | c
    · have := Nat.pow_le_pow_right (show 0 < 2 by omega) (show y.log2 + 1 ≤ x.log2 by omega)
      omega
    · exact c
  have l1 := lrun_lt (lead x x.log2) 16
  unfold lg
  rcases Nat.lt_or_ge x.log2 y.log2 with c | c
  · omega
  · have e : x.log2 = y.log2 := by omega
    rw [e]
    have := lrun_mono (lead_mono (n := y.log2) h) 16
    omega

set_option maxRecDepth 100000 in
set_option maxHeartbeats 2000000 in
theorem walk (x y n : Int) (w : World) (hB : Bend w) (hx : I64 x) (hy : I64 y) :
    Calls Tryd.prog 6 #[.int .i64 x, .int .i64 y, .int .i64 n] w fun e w' => e = .returned (.bool true) ∧ Fresh w w' := by
  obtain ⟨m0, m1⟩ := tmod_bounds n 63 (by omega)
  obtain ⟨k, hk, hk'⟩ : ∃ k : Nat, (n.tmod 63 + 63) % 63 = (k : Int) ∧ k < 63 := ⟨((n.tmod 63 + 63) % 63).toNat, by omega, by omega⟩
  have hpk : 2 ^ k ≤ 2 ^ 62 := Nat.pow_le_pow_right (by omega) (by omega)
  have hp1 : 1 ≤ 2 ^ k := Nat.pos_of_ne_zero (by simp)
  have h2 := fun w => log2_ok (2 ^ k) w hp1 (by omega)
  rw [lg_pow] at h2
  have e2 : (((2 ^ k : Nat) : Nat) : Int) = 2 ^ k := by simp
  rw [e2] at h2
  obtain ⟨p1, p2⟩ := pow62 k (by omega)
  clear e2 hpk hp1
  go_enter Tryd.func6, Tryd.ntmps6
  go_wp2_with fail
  refine (awake_any _ hB).mono ?_
  rintro e w1 ⟨rfl, h1⟩
  go_wp2_with fail
  refine (h2 _).mono ?_
  rintro e w2 ⟨rfl, hw2⟩
  have HK : Hid (Fresh w w2) := h1.trans hw2.fresh (fun _ _ e => e)
  clear h1 h2 hw2 hB
  have e65 : (((65536 * k : Nat) : Nat) : Int) = 65536 * (k : Int) := by omega
  rw [e65]
  clear e65
  by_cases hx1 : x < 1
  · go_wp2
    go_ret
    exact ⟨rfl, HK.out⟩
  by_cases hy1 : y < 1
  · go_wp2
    go_ret
    exact ⟨rfl, HK.out⟩
  obtain ⟨x, rfl⟩ : ∃ n : Nat, x = n := ⟨x.toNat, by omega⟩
  obtain ⟨y, rfl⟩ : ∃ n : Nat, y = n := ⟨y.toNat, by omega⟩
  obtain ⟨_, hx2⟩ := hx
  obtain ⟨_, hy2⟩ := hy
  have hLx := fun w => log2_ok x w (by omega) (by omega)
  have hLy := fun w => log2_ok y w (by omega) (by omega)
  by_cases hxy : x ≤ y
  · have hDx := fun (h : x ≤ 4611686018427387903) w => log2_ok (2 * x) w (by omega) (by omega)
    rw [lg_double (by omega), show ((2 * x : Nat) : Int) = 2 * (x : Int) by omega] at hDx
    have b1 := lg_mono (by omega) hxy
    have b2 := lg_lt (x := y) (by omega) (by omega)
    go_wp2_with fail
    refine (hLx _).mono ?_
    rintro e w3 ⟨rfl, h3⟩
    go_wp2_with fail
    refine (hLy _).mono ?_
    rintro e w4 ⟨rfl, h4⟩
    have HK2 : Hid (Fresh w w4) := HK.out.trans (h3.trans h4).fresh (fun _ _ e => e)
    clear HK h3 h4 hLx hLy
    by_cases hbig : 4611686018427387903 < x
    · have hdec : decide ((4611686018427387903 : Int) < (x : Int)) = true := by rw [decide_eq_true_iff]; omega
      clear hDx
      generalize lg x = a at *
      generalize lg y = b at *
      go_wp2
      go_ret
      exact ⟨rfl, HK2.out⟩
    · have hdec : decide ((4611686018427387903 : Int) < (x : Int)) = false := by rw [decide_eq_false_iff_not]; omega
      have hD := hDx (by omega)
      clear hDx
      generalize lg x = a at *
      generalize lg y = b at *
      go_wp2_with fail
      refine (hD _).mono ?_
      rintro e w5 ⟨rfl, h5⟩
      go_wp2
      go_ret
      exact ⟨rfl, HK2.out.trans h5.fresh (fun _ _ e => e)⟩
  · have hDx := fun (h : y ≤ 4611686018427387903) w => log2_ok (2 * y) w (by omega) (by omega)
    rw [lg_double (by omega), show ((2 * y : Nat) : Int) = 2 * (y : Int) by omega] at hDx
    have b1 := lg_mono (x := y) (y := x) (by omega) (by omega)
    have b2 := lg_lt (x := x) (by omega) (by omega)
    go_wp2_with fail
    refine (hLy _).mono ?_
    rintro e w3 ⟨rfl, h3⟩
    go_wp2_with fail
    refine (hLx _).mono ?_
    rintro e w4 ⟨rfl, h4⟩
    have HK2 : Hid (Fresh w w4) := HK.out.trans (h3.trans h4).fresh (fun _ _ e => e)
    clear HK h3 h4 hLx hLy
    by_cases hbig : 4611686018427387903 < y
    · have hdec : decide ((4611686018427387903 : Int) < (y : Int)) = true := by rw [decide_eq_true_iff]; omega
      clear hDx
      generalize lg x = a at *
      generalize lg y = b at *
      go_wp2
      go_ret
      exact ⟨rfl, HK2.out⟩
    · have hdec : decide ((4611686018427387903 : Int) < (y : Int)) = false := by rw [decide_eq_false_iff_not]; omega
      have hD := hDx (by omega)
      clear hDx
      generalize lg x = a at *
      generalize lg y = b at *
      go_wp2_with fail
      refine (hD _).mono ?_
      rintro e w5 ⟨rfl, h5⟩
      go_wp2
      go_ret
      exact ⟨rfl, HK2.out.trans h5.fresh (fun _ _ e => e)⟩

theorem contract (H : Type) (enc : TypeId × Value → H) (W : World) (base : Nat) (args : Array Value) (ds gs : List (DataW H)) (before : List MemPlace)
    (hval : ∀ (j : Nat) t v, Tryd.f6.params[j]? = some t → args[j]? = some v → Value.okWide Tryd.prog W .any base t v)
    (hW : DataW.Whole enc Tryd.prog Tryd.f6.params.toList Rows.fixedGrowsSpec.vars false W args.toList ds gs before) 
    (hsz : (DataW.weightsEach Tryd.prog (Tryd.f6.params.toList ++ []) (ds ++ gs)).all (· ≤ reachBytes) = true) (hL : laidMetH Tryd.prog Rows.fixedGrowsRow.laid W) :
    Calls Tryd.prog 6 args W fun e W' => ∃ v, e = .returned v ∧ Rows.fixedGrowsSpec.post enc Tryd.prog Tryd.f6 false true false false W args v W' := by
  have hW' := hW
  obtain ⟨p, q, hA0, hV, rfl, hfz, hnd⟩ := hW
  have hA : DataW.TrodAll enc Tryd.prog W 0 (fun _ => true) true Tryd.f6.params.toList args.toList ds p := hA0
  rw [Tryd.params6] at hA hval hsz
  obtain ⟨rfl, rfl⟩ := trodVars_none hV
  obtain ⟨v0, v1, v2, d0, d1, d2, p0, p1, p2, rfl, rfl, rfl, h0, h1, h2⟩ := trodAll_three hA
  obtain ⟨x0, rfl, rfl, rfl, w0⟩ := open_int Tryd.underlying2 (hval 0 2 v0 rfl rfl) h0
  obtain ⟨x1, rfl, rfl, rfl, w1⟩ := open_int Tryd.underlying2 (hval 1 2 v1 rfl rfl) h1
  obtain ⟨x2, rfl, rfl, rfl, w2⟩ := open_int Tryd.underlying3 (hval 2 3 v2 rfl rfl) h2
  refine (walk x0 x1 x2 W (bend_of_laid hL) (i64_of w0) (i64_of w1)).mono fun e W' ⟨he, hk⟩ => ?_
  subst he
  exact ⟨_, rfl, post_law rfl (by kernel_rfl) (by kernel_rfl) hW' rfl hk⟩

theorem laid_met (os : Os) : laidMet Tryd.prog Rows.fixedGrowsRow.laid ((layIn (World.holding Tryd.prog os ⟨#[], #[], []⟩)).forCall (fun _ _ => 0) ⟨#[], #[.int .i64 0, .int .i64 0, .int .i64 0], []⟩).memory :=
  laidMet_of_run' 8 (by kernel_rfl) (by kernel_rfl)
theorem reads (os : Os) {H : Type} (enc : TypeId × Value → H) : ∃ places, DataW.whole enc Tryd.prog ((layIn (World.holding Tryd.prog os ⟨#[], #[], []⟩)).forCall (fun _ _ => 0) ⟨#[], #[.int .i64 0, .int .i64 0, .int .i64 0], []⟩).memory Tryd.f6.params.toList Rows.fixedGrowsSpec.vars false (#[.int .i64 0, .int .i64 0, .int .i64 0] : Array Value).toList 8 = some ([.lit (.int .i64 0), .lit (.int .i64 0), .lit (.int .i64 0)], [], places) :=
  ⟨[], by kernel_rfl⟩

set_option maxRecDepth 100000 in
theorem lifted (os : Os) (started : os.Started) (H : Type) (enc : TypeId × Value → H) (F : Stop.Interp) :
    ReturnsInHanded {} Tryd.checked os 6 .any ((OpenSpec.ofChange Rows.fixedGrowsSpec).preRow enc Tryd.prog Tryd.f6 Rows.fixedGrowsRow.domain false Rows.fixedGrowsRow.laid) (((OpenSpec.ofChange Rows.fixedGrowsSpec).at F).post enc Tryd.prog Tryd.f6 false true false false) := by
  obtain ⟨places, hx⟩ := reads os enc
  refine returnsInHanded_of_row (C := Tryd.checked) (s := OpenSpec.ofChange Rows.fixedGrowsSpec) Tryd.own started (by kernel_rfl) Tryd.func6
    (witness_row_at (enc := enc) (C := Tryd.checked) false (layIn (World.holding Tryd.prog os ⟨#[], #[], []⟩)) #[.int .i64 0, .int .i64 0, .int .i64 0] rfl (by kernel_rfl) (by kernel_rfl) (by kernel_rfl)
      (OpenSpec.preRow_of_cond 8 hx (by kernel_rfl) (fun k hk => by cases hk) (by kernel_rfl) (laid_met os))) ?_
  intro W base args ds gs before hval hW _ hc hsz hL _ _
  exact contract H enc W base args ds gs before hval hW hsz hL

theorem said : Rows.FixedGrowsSaid :=
  OpenClaim.holds_of_cond 6 Tryd.f6 rfl rfl rfl rfl rfl rfl rfl ⟨rfl, rfl, rfl, rfl, rfl⟩ rfl rfl rfl rfl rfl (by kernel_rfl) Tryd.func6 (by kernel_rfl)
    (of_decide_eq_true (by kernel_rfl)) (by unfold Func.isWrapper; first | (rw [if_pos (by decide +kernel)]; kernel_rfl) | (rw [if_neg (by decide +kernel)]; exact ⟨rfl, rfl⟩))
    (fun os started H enc _ F => by rw [OpenClaim.pre_eq_preRow]; exact lifted os started H enc F)

theorem plain (f : FuncId) (fn : Func) (hf : Tryd.pinned.checked.prog.funcNamed Rows.fixedGrowsRow.func = some f) (hfn : Tryd.pinned.checked.prog.funcs[f]? = some fn) :
    false = Tryd.pinned.checked.prog.looks [] ∧ ∀ (j : Nat) t, fn.params[j]? = some t → Tryd.pinned.checked.prog.wantsStandIn t = false := by
  obtain rfl : f = 6 := Option.some.inj ((show Tryd.prog.funcNamed Rows.fixedGrowsRow.func = some 6 by kernel_rfl).symm.trans hf) |>.symm
  obtain rfl : fn = Tryd.f6 := (Option.some.inj (Tryd.func6.symm.trans hfn)).symm
  refine ⟨by kernel_rfl, fun j t ht => ?_⟩
  have hall : (Tryd.f6.params.toList.all fun u => !Tryd.prog.wantsStandIn u) = true := by kernel_rfl
  exact (show Tryd.prog.wantsStandIn t = false by simpa using List.all_eq_true.1 hall t (Array.mem_toList_iff.2 (Array.mem_of_getElem? ht)))

theorem card : Rows.FixedGrowsCardSaid :=
  Claim7.holds_tied_plain_at .later [] _ _ _ _ said (fun _ h => by cases h) (by kernel_rfl) (fun _ h => by cases h) fixedGrows_row_tie rfl ⟨rfl, rfl⟩ (by kernel_rfl) rfl plain (by kernel_rfl)

end Go.Proofs.YtohimhojieeloabDoor.Grows
namespace Go.Proofs.YtohimhojieeloabDoor
theorem fixedGrows_card : Rows.FixedGrowsCardSaid := Grows.card
end Go.Proofs.YtohimhojieeloabDoor
