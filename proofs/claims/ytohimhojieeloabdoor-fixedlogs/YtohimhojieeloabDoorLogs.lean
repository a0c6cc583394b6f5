/-
  For every int64 x the statement FixedLogs answers true: awake does, and Log2 answers as the document says; its card, tied to the program's text.
-/
import Derived.Test.YtohimhojieeloabDoorLay
import Derived.Test.YtohimhojieeloabDoorLg
namespace Go.Proofs.YtohimhojieeloabDoor.Logs
open Go.ChangeShapes Go.WideShapes Go.ChangeAt Go.RowKit

set_option maxHeartbeats 400000 in
theorem refLog2_bad (x : Int) (w : World) (hx : x < 1) :
    Calls Tryd.prog 16 #[.int .i64 x] w fun e w' => e = .returned (.tuple #[.int .i64 0, .int .i64 22]) ∧ Drew w w' := by
  go_enter Tryd.func16, Tryd.ntmps16
  go_wp2
  go_ret2
  exact ⟨rfl, Drew.refl _⟩

theorem half_nat (x k : Nat) : x / 2 ^ k / 2 = x / 2 ^ (k + 1) := by rw [Nat.div_div_eq_div_mul, Nat.pow_succ]
theorem log2_run {x k : Nat} (h1 : 1 ≤ x) (hk : k < x.log2) : 1 < x / 2 ^ k := by
  have a := log2_le h1
  have h2 : 2 ^ (k + 1) ≤ 2 ^ x.log2 := Nat.pow_le_pow_right (by omega) (by omega)
  have : 2 ≤ x / 2 ^ k := by
    rw [Nat.le_div_iff_mul_le (Nat.pos_of_ne_zero (by simp)), Nat.mul_comm, ← Nat.pow_succ]
    omega
  omega
theorem log2_end {x : Nat} (h1 : 1 ≤ x) : x / 2 ^ x.log2 = 1 := by
  have a := log2_le h1
  have b := log2_lt x
  apply Nat.div_eq_of_lt_le
  · omega
  · rw [Nat.pow_succ] at b; omega

set_option maxRecDepth 100000 in
set_option maxHeartbeats 1000000 in
theorem refLog2_ok (x : Nat) (w : World) (h1 : 1 ≤ x) (h : x ≤ 9223372036854775807) :
    Calls Tryd.prog 16 #[.int .i64 x] w fun e w' => e = .returned (.tuple #[.int .i64 (lg x : Nat), .int .i64 0]) ∧ Drew w w' := by
  have hL := log2_63 h h1
  have hb := lead_bound h1
  obtain ⟨L, hLd⟩ : ∃ L, L = x.log2 := ⟨_, rfl⟩
  obtain ⟨m, hm⟩ : ∃ m, m = lead x x.log2 := ⟨_, rfl⟩
  have HG : Hid (lg x = 65536 * L + (lrun (m, 0) 16).2) := by rw [hLd, hm]; rfl
  have HR : Hid (∀ k, k < L → 1 < x / 2 ^ k) := fun k hk => log2_run h1 (by omega)
  have HE : Hid (x / 2 ^ L = 1) := by rw [hLd]; exact log2_end h1
  have HM : Hid (m = if L ≤ 30 then x * 2 ^ (30 - L) else x / 2 ^ (L - 30)) := by rw [hm, hLd]; rfl
  rw [← hm] at hb
  rw [← hLd] at hL
  generalize lg x = G at *
  clear hLd hm
  go_enter Tryd.func16, Tryd.ntmps16
  go_wp2
  go_loop [4, 5] (fun n y => ∃ k : Nat, k ≤ L ∧ n = .int .i64 k ∧ y = .int .i64 ((x / 2 ^ k : Nat) : Int)) (fun n _ => L - (intOf n).toNat)
  case atStart => exact ⟨0, by omega, rfl, by rw [Nat.pow_zero, Nat.div_one]⟩
  case round =>
    obtain ⟨k, hk, rfl, rfl⟩ := hrel
    by_cases hlt : k < L
    · have hr := HR.out k hlt
      have hle : x / 2 ^ k ≤ x := Nat.div_le_self _ _
      have HH : Hid (x / 2 ^ (k + 1) = x / 2 ^ k / 2) := (half_nat x k).symm
      generalize x / 2 ^ k = Y at *
      go_wp2
      go_round
      case rel => exact ⟨k + 1, by omega, by go_num, by rw [HH.out]; go_num⟩
      case measure => simp [intOf]; omega
    · obtain rfl : k = L := by omega
      rw [HE.out, show ((1 : Nat) : Int) = 1 from rfl]
      go_wp2
      go_loop [6, 7] (fun v i => ∃ j : Nat, k ≤ j ∧ (j ≤ 30 ∨ j = k) ∧ i = .int .i64 j ∧ v = .int .i64 ((x * 2 ^ (j - k) : Nat) : Int)) (fun _ i => 30 - (intOf i).toNat)
      case atStart => exact ⟨k, by omega, .inr rfl, rfl, by rw [Nat.sub_self, Nat.pow_zero, Nat.mul_one]⟩
      case round =>
        obtain ⟨j, hj0, hj, rfl, rfl⟩ := hrel
        by_cases hjt : j < 30
        · have HD : Hid (x * 2 ^ (j + 1 - k) = x * 2 ^ (j - k) * 2) := by
            show _ = _
            rw [show j + 1 - k = j - k + 1 by omega, Nat.pow_succ, Nat.mul_assoc]
          have hmx : x * 2 ^ (j - k) ≤ m := by
            rw [HM.out, if_pos (by omega)]
            exact Nat.mul_le_mul_left _ (Nat.pow_le_pow_right (by omega) (by omega))
          generalize x * 2 ^ (j - k) = Y at *
          go_wp2
          go_round
          case rel => exact ⟨j + 1, by omega, by omega, by go_num, by rw [HD.out]; exact congrArg (Value.int .i64) (by omega)⟩
          case measure => simp [intOf]; omega
        · obtain ⟨V, hV⟩ : ∃ V, x * 2 ^ (j - k) = V := ⟨_, rfl⟩
          have hVm : (k ≤ 30 ∧ V = m) ∨ (30 < k ∧ V = x) := by
            rcases Nat.lt_or_ge 30 k with c | c
            · right
              obtain rfl : j = k := by omega
              exact ⟨c, by rw [← hV, Nat.sub_self, Nat.pow_zero, Nat.mul_one]⟩
            · left
              obtain rfl : j = 30 := by omega
              exact ⟨c, by rw [← hV, HM.out, if_pos c]⟩
          rw [hV]
          clear hV
          have hVx : V ≤ 9223372036854775807 := by omega
          go_wp2
          go_loop [6, 8] (fun v i => ∃ t : Nat, t ≤ k ∧ (30 ≤ t ∨ t = k) ∧ i = .int .i64 t ∧ v = .int .i64 ((V / 2 ^ (k - t) : Nat) : Int)) (fun _ i => (intOf i).toNat - 30)
          case atStart => exact ⟨k, by omega, .inr rfl, rfl, by rw [Nat.sub_self, Nat.pow_zero, Nat.div_one]⟩
          case round =>
            obtain ⟨t, ht0, ht, rfl, rfl⟩ := hrel
            by_cases htt : 30 < t
            · have HD : Hid (V / 2 ^ (k - (t - 1)) = V / 2 ^ (k - t) / 2) := by
                show _ = _
                rw [half_nat, show k - (t - 1) = k - t + 1 by omega]
              have hmx : V / 2 ^ (k - t) ≤ V := Nat.div_le_self _ _
              generalize V / 2 ^ (k - t) = Y at *
              go_wp2
              go_round
              case rel => exact ⟨t - 1, by omega, by omega, by exact congrArg (Value.int .i64) (by omega), by rw [HD.out]; exact congrArg (Value.int .i64) (by omega)⟩
              case measure => simp [intOf]; omega
            · have hfin : V / 2 ^ (k - t) = m := by
                rcases hVm with ⟨c, rfl⟩ | ⟨c, rfl⟩
                · obtain rfl : t = k := by omega
                  rw [Nat.sub_self, Nat.pow_zero, Nat.div_one]
                · obtain rfl : t = 30 := by omega
                  rw [HM.out, if_neg (by omega)]
              rw [hfin]
              clear hfin
              go_wp2
              go_loop [6, 9, 10] (fun v a i => ∃ n : Nat, n ≤ 16 ∧ i = .int .i64 n ∧ v = .int .i64 ((lrun (m, 0) n).1 : Nat) ∧ a = .int .i64 ((lrun (m, 0) n).2 : Nat)) (fun _ _ i => 16 - (intOf i).toNat)
              case atStart => exact ⟨0, by omega, rfl, rfl, rfl⟩
              case round =>
                obtain ⟨n, hn, rfl, rfl, rfl⟩ := hrel
                obtain ⟨c0, c1⟩ := lrun_bound (p := (m, 0)) hb n
                have ha : (lrun (m, 0) n).2 < 65536 := by
                  have e1 := lrun_lt m n
                  have e2 : 2 ^ n ≤ 2 ^ 16 := Nat.pow_le_pow_right (by omega) hn
                  omega
                by_cases hlt2 : n < 16
                · have HS : Hid (lrun (m, 0) (n + 1) = lstep ((lrun (m, 0) n).1, (lrun (m, 0) n).2)) := rfl
                  generalize (lrun (m, 0) n).1 = q at *
                  generalize (lrun (m, 0) n).2 = a at *
                  obtain ⟨s0, s1⟩ := sq_bound c0 c1
                  obtain ⟨S, hS⟩ : ∃ S, S = q * q := ⟨_, rfl⟩
                  have hSI : (q : Int) * (q : Int) = (S : Int) := by rw [hS]; simp
                  have HS2 : Hid (lstep (q, a) = if 2147483648 ≤ S / 1073741824 then (S / 1073741824 / 2, 2 * a + 1) else (S / 1073741824, 2 * a)) := by rw [hS]; rfl
                  rw [← hS] at s0 s1
                  clear hS
                  obtain ⟨D, hD⟩ : ∃ D, S / 1073741824 = D := ⟨_, rfl⟩
                  have hSD : (S : Int) / 1073741824 = (D : Int) := by omega
                  have s2 : S ≤ 4611686014132420609 := by omega
                  have d0 : 1073741824 ≤ D := by omega
                  have d1 : D ≤ 4294967295 := by omega
                  rw [hD] at HS2
                  clear hD s0 s1
                  by_cases hd : 2147483648 ≤ D
                  · rw [if_pos hd] at HS2
                    have hdec : decide ((2147483648 : Int) ≤ (D : Int)) = true := by rw [decide_eq_true_iff]; omega
                    go_wp2
                    go_round
                    case rel => exact ⟨n + 1, by omega, by go_num, by rw [HS.out, HS2.out]; go_num, by rw [HS.out, HS2.out]; exact congrArg (Value.int .i64) (by show _ = ((2 * a + 1 : Nat) : Int); omega)⟩
                    case measure => simp [intOf]; omega
                  · rw [if_neg hd] at HS2
                    have hdec : decide ((2147483648 : Int) ≤ (D : Int)) = false := by rw [decide_eq_false_iff_not]; omega
                    go_wp2
                    go_round
                    case rel => exact ⟨n + 1, by omega, by go_num, by rw [HS.out, HS2.out], by rw [HS.out, HS2.out]; exact congrArg (Value.int .i64) (by show _ = ((2 * a : Nat) : Int); omega)⟩
                    case measure => simp [intOf]; omega
                · obtain rfl : n = 16 := by omega
                  rw [show ((16 : Nat) : Int) = 16 from rfl]
                  generalize (lrun (m, 0) 16).1 = R1 at *
                  generalize (lrun (m, 0) 16).2 = R at *
                  have e := HG.out
                  subst e
                  go_wp2
                  go_ret2
                  exact ⟨rfl, Drew.refl _⟩

/-- What Log2 tells of any number. -/
def lgQ (x : Int) : Int := if x < 1 then 0 else (lg x.toNat : Nat)
def lgE (x : Int) : Int := if x < 1 then 22 else 0
theorem log2_any (x : Int) (w : World) (hx : I64 x) :
    Calls Tryd.prog 15 #[.int .i64 x] w fun e w' => e = .returned (.tuple #[.int .i64 (lgQ x), .int .i64 (lgE x)]) ∧ Drew w w' := by
  unfold lgQ lgE
  rcases Int.lt_or_le x 1 with h | h
  · rw [if_pos h, if_pos h]; exact log2_bad x w h
  · rw [if_neg (by omega), if_neg (by omega)]
    obtain ⟨n, rfl⟩ : ∃ n : Nat, x = n := ⟨x.toNat, by omega⟩
    exact log2_ok n w (by omega) (by have := hx.2; omega)
theorem refLog2_any (x : Int) (w : World) (hx : I64 x) :
    Calls Tryd.prog 16 #[.int .i64 x] w fun e w' => e = .returned (.tuple #[.int .i64 (lgQ x), .int .i64 (lgE x)]) ∧ Drew w w' := by
  unfold lgQ lgE
  rcases Int.lt_or_le x 1 with h | h
  · rw [if_pos h, if_pos h]; exact refLog2_bad x w h
  · rw [if_neg (by omega), if_neg (by omega)]
    obtain ⟨n, rfl⟩ : ∃ n : Nat, x = n := ⟨x.toNat, by omega⟩
    exact refLog2_ok n w (by omega) (by have := hx.2; omega)

set_option maxHeartbeats 800000 in
theorem walk (x : Int) (w : World) (hB : Bend w) (hx : I64 x) :
    Calls Tryd.prog 5 #[.int .i64 x] w fun e w' => e = .returned (.bool true) ∧ Fresh w w' := by
  go_enter Tryd.func5, Tryd.ntmps5
  go_wp2_with fail
  refine (awake_any _ hB).mono ?_
  rintro e w1 ⟨rfl, h1⟩
  go_wp2_with fail
  refine (log2_any _ _ hx).mono ?_
  rintro e w2 ⟨rfl, h2⟩
  go_wp2_with fail
  refine (refLog2_any _ _ hx).mono ?_
  rintro e w3 ⟨rfl, h3⟩
  go_wp2
  go_ret
  exact ⟨rfl, h1.trans (h2.trans h3).fresh (fun _ _ e => e)⟩

theorem contract (H : Type) (enc : TypeId × Value → H) (W : World) (base : Nat) (args : Array Value) (ds gs : List (DataW H)) (before : List MemPlace)
    (hval : ∀ (j : Nat) t v, Tryd.f5.params[j]? = some t → args[j]? = some v → Value.okWide Tryd.prog W .any base t v)
    (hW : DataW.Whole enc Tryd.prog Tryd.f5.params.toList Rows.fixedLogsSpec.vars false W args.toList ds gs before) 
    (hsz : (DataW.weightsEach Tryd.prog (Tryd.f5.params.toList ++ []) (ds ++ gs)).all (· ≤ reachBytes) = true) (hL : laidMetH Tryd.prog Rows.fixedLogsRow.laid W) :
    Calls Tryd.prog 5 args W fun e W' => ∃ v, e = .returned v ∧ Rows.fixedLogsSpec.post enc Tryd.prog Tryd.f5 false true false false W args v W' := by
  have hW' := hW
  obtain ⟨p, q, hA0, hV, rfl, hfz, hnd⟩ := hW
  have hA : DataW.TrodAll enc Tryd.prog W 0 (fun _ => true) true Tryd.f5.params.toList args.toList ds p := hA0
  rw [Tryd.params5] at hA hval hsz
  obtain ⟨rfl, rfl⟩ := trodVars_none hV
  obtain ⟨v0, d0, rfl, rfl, h0⟩ := trodAll_one hA
  obtain ⟨x0, rfl, rfl, rfl, w0⟩ := open_int Tryd.underlying2 (hval 0 2 v0 rfl rfl) h0
  refine (walk x0 W (bend_of_laid hL) (i64_of w0)).mono fun e W' ⟨he, hk⟩ => ?_
  subst he
  exact ⟨_, rfl, post_law rfl (by kernel_rfl) (by kernel_rfl) hW' rfl hk⟩

theorem laid_met (os : Os) : laidMet Tryd.prog Rows.fixedLogsRow.laid ((layIn (World.holding Tryd.prog os ⟨#[], #[], []⟩)).forCall (fun _ _ => 0) ⟨#[], #[.int .i64 0], []⟩).memory :=
  laidMet_of_run' 8 (by kernel_rfl) (by kernel_rfl)
theorem reads (os : Os) {H : Type} (enc : TypeId × Value → H) : ∃ places, DataW.whole enc Tryd.prog ((layIn (World.holding Tryd.prog os ⟨#[], #[], []⟩)).forCall (fun _ _ => 0) ⟨#[], #[.int .i64 0], []⟩).memory Tryd.f5.params.toList Rows.fixedLogsSpec.vars false (#[.int .i64 0] : Array Value).toList 8 = some ([.lit (.int .i64 0)], [], places) :=
  ⟨[], by kernel_rfl⟩

set_option maxRecDepth 100000 in
theorem lifted (os : Os) (started : os.Started) (H : Type) (enc : TypeId × Value → H) (F : Stop.Interp) :
    ReturnsInHanded {} Tryd.checked os 5 .any ((OpenSpec.ofChange Rows.fixedLogsSpec).preRow enc Tryd.prog Tryd.f5 Rows.fixedLogsRow.domain false Rows.fixedLogsRow.laid) (((OpenSpec.ofChange Rows.fixedLogsSpec).at F).post enc Tryd.prog Tryd.f5 false true false false) := by
  obtain ⟨places, hx⟩ := reads os enc
  refine returnsInHanded_of_row (C := Tryd.checked) (s := OpenSpec.ofChange Rows.fixedLogsSpec) Tryd.own started (by kernel_rfl) Tryd.func5
    (witness_row_at (enc := enc) (C := Tryd.checked) false (layIn (World.holding Tryd.prog os ⟨#[], #[], []⟩)) #[.int .i64 0] rfl (by kernel_rfl) (by kernel_rfl) (by kernel_rfl)
      (OpenSpec.preRow_of_cond 8 hx (by kernel_rfl) (fun k hk => by cases hk) (by kernel_rfl) (laid_met os))) ?_
  intro W base args ds gs before hval hW _ hc hsz hL _ _
  exact contract H enc W base args ds gs before hval hW hsz hL

theorem said : Rows.FixedLogsSaid :=
  OpenClaim.holds_of_cond 5 Tryd.f5 rfl rfl rfl rfl rfl rfl rfl ⟨rfl, rfl, rfl, rfl, rfl⟩ rfl rfl rfl rfl rfl (by kernel_rfl) Tryd.func5 (by kernel_rfl)
    (of_decide_eq_true (by kernel_rfl)) (by unfold Func.isWrapper; first | (rw [if_pos (by decide +kernel)]; kernel_rfl) | (rw [if_neg (by decide +kernel)]; exact ⟨rfl, rfl⟩))
    (fun os started H enc _ F => by rw [OpenClaim.pre_eq_preRow]; exact lifted os started H enc F)

theorem plain (f : FuncId) (fn : Func) (hf : Tryd.pinned.checked.prog.funcNamed Rows.fixedLogsRow.func = some f) (hfn : Tryd.pinned.checked.prog.funcs[f]? = some fn) :
    false = Tryd.pinned.checked.prog.looks [] ∧ ∀ (j : Nat) t, fn.params[j]? = some t → Tryd.pinned.checked.prog.wantsStandIn t = false := by
  obtain rfl : f = 5 := Option.some.inj ((show Tryd.prog.funcNamed Rows.fixedLogsRow.func = some 5 by kernel_rfl).symm.trans hf) |>.symm
  obtain rfl : fn = Tryd.f5 := (Option.some.inj (Tryd.func5.symm.trans hfn)).symm
  refine ⟨by kernel_rfl, fun j t ht => ?_⟩
  have hall : (Tryd.f5.params.toList.all fun u => !Tryd.prog.wantsStandIn u) = true := by kernel_rfl
  exact (show Tryd.prog.wantsStandIn t = false by simpa using List.all_eq_true.1 hall t (Array.mem_toList_iff.2 (Array.mem_of_getElem? ht)))

theorem card : Rows.FixedLogsCardSaid :=
  Claim7.holds_tied_plain_at .later [] _ _ _ _ said (fun _ h => by cases h) (by kernel_rfl) (fun _ h => by cases h) fixedLogs_row_tie rfl ⟨rfl, rfl⟩ (by kernel_rfl) rfl plain (by kernel_rfl)

end Go.Proofs.YtohimhojieeloabDoor.Logs
namespace Go.Proofs.YtohimhojieeloabDoor
theorem fixedLogs_card : Rows.FixedLogsCardSaid := Logs.card
end Go.Proofs.YtohimhojieeloabDoor
