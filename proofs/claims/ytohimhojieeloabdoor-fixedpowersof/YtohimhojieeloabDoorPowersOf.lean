/-
  For all int64 x and y and every int n the statement FixedPowersOf answers true: awake does, Power and Gcd answer as the document says, what Gcd tells divides both, and is the same the other way round; its card, tied to the program's text.
-/
import Derived.Test.YtohimhojieeloabDoorLay
import Derived.Test.YtohimhojieeloabDoorPw
namespace Go.Proofs.YtohimhojieeloabDoor.PowersOf
open Go.ChangeShapes Go.WideShapes Go.ChangeAt Go.RowKit

theorem gcd_step (m n : Nat) : Nat.gcd n (m % n) = Nat.gcd m n := by
  rw [Nat.gcd_comm m n, Nat.gcd_rec n m, Nat.gcd_comm]

set_option maxHeartbeats 800000 in
theorem gcd_any (a b : Int) (w : World) (ha : I64 a) (hb : I64 b) :
    Calls Tryd.prog 21 #[.int .i64 a, .int .i64 b] w fun e w' => e = .returned (.tuple #[.int .i64 (sgnQ false (Nat.gcd a.natAbs b.natAbs)), .bool (sgnB false (Nat.gcd a.natAbs b.natAbs))]) ∧ Drew w w' := by
  have sa := fun w => size_any a w ha
  have sb := fun w => size_any b w hb
  have hA : a.natAbs ≤ 9223372036854775808 := by have := ha.1; have := ha.2; omega
  have hB : b.natAbs ≤ 9223372036854775808 := by have := hb.1; have := hb.2; omega
  generalize a.natAbs = A at *
  generalize b.natAbs = B at *
  obtain ⟨G, hG⟩ : ∃ G, Nat.gcd A B = G := ⟨_, rfl⟩
  rw [hG]
  have HG : Hid (Nat.gcd A B = G) := hG
  clear hG
  go_enter Tryd.func21, Tryd.ntmps21
  go_wp2_with fail
  refine (sa _).mono ?_
  rintro e w1 ⟨rfl, rfl⟩
  go_wp2_with fail
  refine (sb _).mono ?_
  rintro e w1 ⟨rfl, rfl⟩
  go_wp2
  go_loopw [6, 7] (fun mv nv wr => ∃ M N : Nat, mv = .int .u64 M ∧ nv = .int .u64 N ∧ M ≤ 9223372036854775808 ∧ N ≤ 9223372036854775808 ∧ Nat.gcd M N = G ∧ Drew w1 wr) (fun _ nv _ => (intOf nv).toNat)
  case atStart => exact ⟨A, B, rfl, rfl, hA, hB, HG.out, Drew.refl _⟩
  case round =>
    obtain ⟨M, N, rfl, rfl, hM, hN, hg, hwr⟩ := hrel
    have HW : Hid (Drew w1 wr) := hwr
    have HS : Hid (Nat.gcd N (M % N) = G) := (gcd_step M N).trans hg
    have HG2 : Hid (Nat.gcd M N = G) := hg
    clear hwr hg HG
    by_cases h0 : N = 0
    · subst h0
      have e := HG2.out
      rw [Nat.gcd_zero_right] at e
      subst e
      have hs := fun w => signed_any false M w (by omega)
      rw [show ((0 : Nat) : Int) = 0 from rfl]
      go_wp2_with fail
      refine (hs _).mono ?_
      rintro e w2 ⟨rfl, hw2⟩
      go_wp2
      go_ret2
      exact ⟨rfl, HW.out.trans hw2⟩
    · have hlt : M % N < N := Nat.mod_lt _ (by omega)
      have hmI : (M : Int) % (N : Int) = ((M % N : Nat) : Int) := by simp
      have hNp : (0 : Int) < (N : Int) := by omega
      have HM : Hid ((M : Int) % (N : Int) = ((M % N : Nat) : Int)) := hmI
      clear hmI
      generalize M % N = R at *
      go_wp2
      go_quiet (fail)
      go_wp2
      go_roundw
      case rel => exact ⟨N, R, rfl, by rw [← HM.out], hN, by omega, HS.out, HW.out.more _⟩
      case measure =>
        have := HM.out
        simp [intOf]
        omega

set_option maxHeartbeats 400000 in
theorem refSize_any (x : Int) (w : World) (hx : I64 x) :
    Calls Tryd.prog 31 #[.int .i64 x] w fun e w' => e = .returned (.int .u64 (x.natAbs : Nat)) ∧ w' = w := by
  obtain ⟨x0, x1⟩ := hx
  by_cases h : x < 0
  · have e3 : ((x.natAbs : Nat) : Int) = -(x + 1) + 1 := by omega
    rw [e3]
    clear e3
    go_enter Tryd.func31, Tryd.ntmps31
    go_wp2
    go_ret
    exact ⟨ret_int (by first | rfl | omega), rfl⟩
  · have e3 : ((x.natAbs : Nat) : Int) = x := by omega
    rw [e3]
    clear e3
    go_enter Tryd.func31, Tryd.ntmps31
    go_wp2
    go_ret
    exact ⟨rfl, rfl⟩

set_option maxHeartbeats 800000 in
theorem refGcd_any (a b : Int) (w : World) (ha : I64 a) (hb : I64 b) :
    Calls Tryd.prog 22 #[.int .i64 a, .int .i64 b] w fun e w' => e = .returned (.tuple #[.int .i64 (sgnQ false (Nat.gcd a.natAbs b.natAbs)), .bool (sgnB false (Nat.gcd a.natAbs b.natAbs))]) ∧ Drew w w' := by
  have sa := fun w => refSize_any a w ha
  have sb := fun w => refSize_any b w hb
  have hA : a.natAbs ≤ 9223372036854775808 := by have := ha.1; have := ha.2; omega
  have hB : b.natAbs ≤ 9223372036854775808 := by have := hb.1; have := hb.2; omega
  generalize a.natAbs = A at *
  generalize b.natAbs = B at *
  obtain ⟨G, hG⟩ : ∃ G, Nat.gcd A B = G := ⟨_, rfl⟩
  rw [hG]
  have HG : Hid (Nat.gcd A B = G) := hG
  clear hG
  go_enter Tryd.func22, Tryd.ntmps22
  go_wp2_with fail
  refine (sa _).mono ?_
  rintro e w1 ⟨rfl, rfl⟩
  go_wp2_with fail
  refine (sb _).mono ?_
  rintro e w1 ⟨rfl, rfl⟩
  go_wp2
  go_loopw [6, 7] (fun mv nv wr => ∃ M N : Nat, mv = .int .u64 M ∧ nv = .int .u64 N ∧ M ≤ 9223372036854775808 ∧ N ≤ 9223372036854775808 ∧ Nat.gcd M N = G ∧ Drew w1 wr) (fun _ nv _ => (intOf nv).toNat)
  case atStart => exact ⟨A, B, rfl, rfl, hA, hB, HG.out, Drew.refl _⟩
  case round =>
    obtain ⟨M, N, rfl, rfl, hM, hN, hg, hwr⟩ := hrel
    have HW : Hid (Drew w1 wr) := hwr
    have HS : Hid (Nat.gcd N (M % N) = G) := (gcd_step M N).trans hg
    have HG2 : Hid (Nat.gcd M N = G) := hg
    clear hwr hg HG
    by_cases h0 : N = 0
    · subst h0
      have e := HG2.out
      rw [Nat.gcd_zero_right] at e
      subst e
      rw [show ((0 : Nat) : Int) = 0 from rfl]
      by_cases h : M < 9223372036854775808
      · have hdec : decide ((9223372036854775807 : Int) < (M : Int)) = false := by rw [decide_eq_false_iff_not]; omega
        have HE : Hid (sgnQ false M = (M : Int) ∧ sgnB false M = true) := ⟨by unfold sgnQ; rw [if_neg (by decide), if_pos h], by unfold sgnB; rw [if_neg (by decide)]; simp [h]⟩
        go_wp2
        go_ret2
        exact ⟨by rw [HE.out.1, HE.out.2]; rfl, HW.out⟩
      · have hdec : decide ((9223372036854775807 : Int) < (M : Int)) = true := by rw [decide_eq_true_iff]; omega
        have HE : Hid (sgnQ false M = 0 ∧ sgnB false M = false) := ⟨by unfold sgnQ; rw [if_neg (by decide), if_neg h], by unfold sgnB; rw [if_neg (by decide)]; simp [h]⟩
        go_wp2
        go_ret2
        exact ⟨by rw [HE.out.1, HE.out.2]; rfl, HW.out⟩
    · have hlt : M % N < N := Nat.mod_lt _ (by omega)
      have hNp : (0 : Int) < (N : Int) := by omega
      have HM : Hid ((M : Int) % (N : Int) = ((M % N : Nat) : Int)) := by show _ = _; simp
      generalize M % N = R at *
      go_wp2
      go_quiet (fail)
      go_wp2
      go_roundw
      case rel => exact ⟨N, R, rfl, by rw [← HM.out], hN, by omega, HS.out, HW.out.more _⟩
      case measure =>
        have := HM.out
        simp [intOf]
        omega

def pwQ (x n : Int) : Int := if n < 0 then 0 else powQ (x ^ n.toNat)
def pwB (x n : Int) : Bool := if n < 0 then false else powB (x ^ n.toNat)
theorem power_any (x n : Int) (w : World) (hx : I64 x) (hn : I64 n) :
    Calls Tryd.prog 19 #[.int .i64 x, .int .i64 n] w fun e w' => e = .returned (.tuple #[.int .i64 (pwQ x n), .bool (pwB x n)]) ∧ Drew w w' := by
  unfold pwQ pwB
  rcases Int.lt_or_le n 0 with h | h
  · rw [if_pos h, if_pos h]; exact power_neg x n w h
  · rw [if_neg (by omega), if_neg (by omega)]
    obtain ⟨k, rfl⟩ : ∃ k : Nat, n = k := ⟨n.toNat, by omega⟩
    exact power_ok x k w hx (by have := hn.2; omega)
theorem refPower_any (x n : Int) (w : World) (hx : I64 x) (hn : I64 n) :
    Calls Tryd.prog 20 #[.int .i64 x, .int .i64 n] w fun e w' => e = .returned (.tuple #[.int .i64 (pwQ x n), .bool (pwB x n)]) ∧ Drew w w' := by
  unfold pwQ pwB
  rcases Int.lt_or_le n 0 with h | h
  · rw [if_pos h, if_pos h]; exact refPower_neg x n w h
  · rw [if_neg (by omega), if_neg (by omega)]
    obtain ⟨k, rfl⟩ : ∃ k : Nat, n = k := ⟨n.toNat, by omega⟩
    exact refPower_ok x k w hx (by have := hn.2; omega)

set_option maxRecDepth 100000 in
set_option maxHeartbeats 2000000 in
theorem walk (x n y : Int) (w : World) (hB : Bend w) (hx : I64 x) (hn : I64 n) (hy : I64 y) :
    Calls Tryd.prog 8 #[.int .i64 x, .int .i64 n, .int .i64 y] w fun e w' => e = .returned (.bool true) ∧ Fresh w w' := by
  have h1 := fun w => power_any x n w hx hn
  have h2 := fun w => refPower_any x n w hx hn
  have h3 := fun w => gcd_any x y w hx hy
  have h4 := fun w => refGcd_any x y w hx hy
  have h5 := fun w => gcd_any y x w hy hx
  rw [Nat.gcd_comm y.natAbs x.natAbs] at h5
  have dx : ((Nat.gcd x.natAbs y.natAbs : Nat) : Int) ∣ x := Int.ofNat_dvd_left.2 (Nat.gcd_dvd_left _ _)
  have dy : ((Nat.gcd x.natAbs y.natAbs : Nat) : Int) ∣ y := Int.ofNat_dvd_left.2 (Nat.gcd_dvd_right _ _)
  generalize Nat.gcd x.natAbs y.natAbs = G at *
  generalize pwQ x n = Q at *
  generalize pwB x n = B at *
  have mx := Int.tmod_eq_zero_of_dvd dx
  have my := Int.tmod_eq_zero_of_dvd dy
  by_cases hG : G < 9223372036854775808
  · have e1 : sgnQ false G = (G : Int) := by unfold sgnQ; rw [if_neg (by decide), if_pos hG]
    have e2 : sgnB false G = true := by unfold sgnB; rw [if_neg (by decide)]; simp [hG]
    rw [e1, e2] at h3 h4 h5
    clear e1 e2
    by_cases hG0 : G = 0
    · subst hG0
      obtain rfl : x = 0 := Int.zero_dvd.1 dx
      obtain rfl : y = 0 := Int.zero_dvd.1 dy
      rw [show ((0 : Nat) : Int) = 0 from rfl] at h3 h4 h5
      clear mx my dx dy
      go_enter Tryd.func8, Tryd.ntmps8
      go_wp2_with fail
      refine (awake_any _ hB).mono ?_
      rintro e w1 ⟨rfl, k1⟩
      go_wp2_with fail
      refine (h1 _).mono ?_
      rintro e w2 ⟨rfl, k2⟩
      go_wp2_with fail
      refine (h2 _).mono ?_
      rintro e w3 ⟨rfl, k3⟩
      go_wp2_with fail
      refine (h3 _).mono ?_
      rintro e w4 ⟨rfl, k4⟩
      go_wp2_with fail
      refine (h4 _).mono ?_
      rintro e w5 ⟨rfl, k5⟩
      go_wp2_with fail
      refine (h5 _).mono ?_
      rintro e w6 ⟨rfl, k6⟩
      go_wp2
      go_ret
      exact ⟨rfl, k1.trans ((((k2.trans k3).trans k4).trans k5).trans k6).fresh (fun _ _ e => e)⟩
    · have hGp : (0 : Int) < (G : Int) := by omega
      have hGz : ((G : Int) == 0) = false := by simp; omega
      clear dx dy
      go_enter Tryd.func8, Tryd.ntmps8
      go_wp2_with fail
      refine (awake_any _ hB).mono ?_
      rintro e w1 ⟨rfl, k1⟩
      go_wp2_with fail
      refine (h1 _).mono ?_
      rintro e w2 ⟨rfl, k2⟩
      go_wp2_with fail
      refine (h2 _).mono ?_
      rintro e w3 ⟨rfl, k3⟩
      go_wp2_with fail
      refine (h3 _).mono ?_
      rintro e w4 ⟨rfl, k4⟩
      go_wp2_with fail
      refine (h4 _).mono ?_
      rintro e w5 ⟨rfl, k5⟩
      go_wp2_with fail
      refine (h5 _).mono ?_
      rintro e w6 ⟨rfl, k6⟩
      go_wp2
      go_ret
      exact ⟨rfl, k1.trans ((((k2.trans k3).trans k4).trans k5).trans k6).fresh (fun _ _ e => e)⟩
  · have e1 : sgnQ false G = 0 := by unfold sgnQ; rw [if_neg (by decide), if_neg hG]
    have e2 : sgnB false G = false := by unfold sgnB; rw [if_neg (by decide)]; simp [hG]
    rw [e1, e2] at h3 h4 h5
    clear e1 e2 mx my dx dy hG
    go_enter Tryd.func8, Tryd.ntmps8
    go_wp2_with fail
    refine (awake_any _ hB).mono ?_
    rintro e w1 ⟨rfl, k1⟩
    go_wp2_with fail
    refine (h1 _).mono ?_
    rintro e w2 ⟨rfl, k2⟩
    go_wp2_with fail
    refine (h2 _).mono ?_
    rintro e w3 ⟨rfl, k3⟩
    go_wp2_with fail
    refine (h3 _).mono ?_
    rintro e w4 ⟨rfl, k4⟩
    go_wp2_with fail
    refine (h4 _).mono ?_
    rintro e w5 ⟨rfl, k5⟩
    go_wp2_with fail
    refine (h5 _).mono ?_
    rintro e w6 ⟨rfl, k6⟩
    go_wp2
    go_ret
    exact ⟨rfl, k1.trans ((((k2.trans k3).trans k4).trans k5).trans k6).fresh (fun _ _ e => e)⟩

theorem contract (H : Type) (enc : TypeId × Value → H) (W : World) (base : Nat) (args : Array Value) (ds gs : List (DataW H)) (before : List MemPlace)
    (hval : ∀ (j : Nat) t v, Tryd.f8.params[j]? = some t → args[j]? = some v → Value.okWide Tryd.prog W .any base t v)
    (hW : DataW.Whole enc Tryd.prog Tryd.f8.params.toList Rows.fixedPowersOfSpec.vars false W args.toList ds gs before) 
    (hsz : (DataW.weightsEach Tryd.prog (Tryd.f8.params.toList ++ []) (ds ++ gs)).all (· ≤ reachBytes) = true) (hL : laidMetH Tryd.prog Rows.fixedPowersOfRow.laid W) :
    Calls Tryd.prog 8 args W fun e W' => ∃ v, e = .returned v ∧ Rows.fixedPowersOfSpec.post enc Tryd.prog Tryd.f8 false true false false W args v W' := by
  have hW' := hW
  obtain ⟨p, q, hA0, hV, rfl, hfz, hnd⟩ := hW
  have hA : DataW.TrodAll enc Tryd.prog W 0 (fun _ => true) true Tryd.f8.params.toList args.toList ds p := hA0
  rw [Tryd.params8] at hA hval hsz
  obtain ⟨rfl, rfl⟩ := trodVars_none hV
  obtain ⟨v0, v1, v2, d0, d1, d2, p0, p1, p2, rfl, rfl, rfl, h0, h1, h2⟩ := trodAll_three hA
  obtain ⟨x0, rfl, rfl, rfl, w0⟩ := open_int Tryd.underlying2 (hval 0 2 v0 rfl rfl) h0
  obtain ⟨x1, rfl, rfl, rfl, w1⟩ := open_int Tryd.underlying3 (hval 1 3 v1 rfl rfl) h1
  obtain ⟨x2, rfl, rfl, rfl, w2⟩ := open_int Tryd.underlying2 (hval 2 2 v2 rfl rfl) h2
  refine (walk x0 x1 x2 W (bend_of_laid hL) (i64_of w0) (i64_of w1) (i64_of w2)).mono fun e W' ⟨he, hk⟩ => ?_
  subst he
  exact ⟨_, rfl, post_law rfl (by kernel_rfl) (by kernel_rfl) hW' rfl hk⟩

theorem laid_met (os : Os) : laidMet Tryd.prog Rows.fixedPowersOfRow.laid ((layIn (World.holding Tryd.prog os ⟨#[], #[], []⟩)).forCall (fun _ _ => 0) ⟨#[], #[.int .i64 0, .int .i64 0, .int .i64 0], []⟩).memory :=
  laidMet_of_run' 8 (by kernel_rfl) (by kernel_rfl)
theorem reads (os : Os) {H : Type} (enc : TypeId × Value → H) : ∃ places, DataW.whole enc Tryd.prog ((layIn (World.holding Tryd.prog os ⟨#[], #[], []⟩)).forCall (fun _ _ => 0) ⟨#[], #[.int .i64 0, .int .i64 0, .int .i64 0], []⟩).memory Tryd.f8.params.toList Rows.fixedPowersOfSpec.vars false (#[.int .i64 0, .int .i64 0, .int .i64 0] : Array Value).toList 8 = some ([.lit (.int .i64 0), .lit (.int .i64 0), .lit (.int .i64 0)], [], places) :=
  ⟨[], by kernel_rfl⟩

set_option maxRecDepth 100000 in
theorem lifted (os : Os) (started : os.Started) (H : Type) (enc : TypeId × Value → H) (F : Stop.Interp) :
    ReturnsInHanded {} Tryd.checked os 8 .any ((OpenSpec.ofChange Rows.fixedPowersOfSpec).preRow enc Tryd.prog Tryd.f8 Rows.fixedPowersOfRow.domain false Rows.fixedPowersOfRow.laid) (((OpenSpec.ofChange Rows.fixedPowersOfSpec).at F).post enc Tryd.prog Tryd.f8 false true false false) := by
  obtain ⟨places, hx⟩ := reads os enc
  refine returnsInHanded_of_row (C := Tryd.checked) (s := OpenSpec.ofChange Rows.fixedPowersOfSpec) Tryd.own started (by kernel_rfl) Tryd.func8
    (witness_row_at (enc := enc) (C := Tryd.checked) false (layIn (World.holding Tryd.prog os ⟨#[], #[], []⟩)) #[.int .i64 0, .int .i64 0, .int .i64 0] rfl (by kernel_rfl) (by kernel_rfl) (by kernel_rfl)
      (OpenSpec.preRow_of_cond 8 hx (by kernel_rfl) (fun k hk => by cases hk) (by kernel_rfl) (laid_met os))) ?_
  intro W base args ds gs before hval hW _ hc hsz hL _ _
  exact contract H enc W base args ds gs before hval hW hsz hL

theorem said : Rows.FixedPowersOfSaid :=
  OpenClaim.holds_of_cond 8 Tryd.f8 rfl rfl rfl rfl rfl rfl rfl ⟨rfl, rfl, rfl, rfl, rfl⟩ rfl rfl rfl rfl rfl (by kernel_rfl) Tryd.func8 (by kernel_rfl)
    (of_decide_eq_true (by kernel_rfl)) (by unfold Func.isWrapper; first | (rw [if_pos (by decide +kernel)]; kernel_rfl) | (rw [if_neg (by decide +kernel)]; exact ⟨rfl, rfl⟩))
    (fun os started H enc _ F => by rw [OpenClaim.pre_eq_preRow]; exact lifted os started H enc F)

theorem plain (f : FuncId) (fn : Func) (hf : Tryd.pinned.checked.prog.funcNamed Rows.fixedPowersOfRow.func = some f) (hfn : Tryd.pinned.checked.prog.funcs[f]? = some fn) :
    false = Tryd.pinned.checked.prog.looks [] ∧ ∀ (j : Nat) t, fn.params[j]? = some t → Tryd.pinned.checked.prog.wantsStandIn t = false := by
  obtain rfl : f = 8 := Option.some.inj ((show Tryd.prog.funcNamed Rows.fixedPowersOfRow.func = some 8 by kernel_rfl).symm.trans hf) |>.symm
  obtain rfl : fn = Tryd.f8 := (Option.some.inj (Tryd.func8.symm.trans hfn)).symm
  refine ⟨by kernel_rfl, fun j t ht => ?_⟩
  have hall : (Tryd.f8.params.toList.all fun u => !Tryd.prog.wantsStandIn u) = true := by kernel_rfl
  exact (show Tryd.prog.wantsStandIn t = false by simpa using List.all_eq_true.1 hall t (Array.mem_toList_iff.2 (Array.mem_of_getElem? ht)))

theorem card : Rows.FixedPowersOfCardSaid :=
  Claim7.holds_tied_plain_at .later [] _ _ _ _ said (fun _ h => by cases h) (by kernel_rfl) (fun _ h => by cases h) fixedPowersOf_row_tie rfl ⟨rfl, rfl⟩ (by kernel_rfl) rfl plain (by kernel_rfl)

end Go.Proofs.YtohimhojieeloabDoor.PowersOf
namespace Go.Proofs.YtohimhojieeloabDoor
theorem fixedPowersOf_card : Rows.FixedPowersOfCardSaid := PowersOf.card
end Go.Proofs.YtohimhojieeloabDoor
