/-
  A mean by weights, the document's.
-/
import Derived.Test.YtkolpdfakhlkeaaDoorSfN
import Derived.Test.YtkolpdfakhlkeaaDoorSfc
import Derived.Test.YtkolpdfakhlkeaaDoorFwg
import Derived.BigQuiet
namespace Go.Proofs.YtkolpdfakhlkeaaDoor
open Go.RowKit Go.Lib Go.Maps

/-- What good answers. -/
def goS (w : List Int) : Int := if okW w = true then tot w w.length else 0
def goB (w : List Int) : Bool := okW w && decide (0 < tot w w.length)
set_option maxHeartbeats 1000000 in
set_option maxRecDepth 100000 in
theorem good_any (p : Nat → Prop) (v : Value) (zs : List Int) (w : World) (h : Rk .i64 p w v zs) (hn : zs.length ≤ 512) :
    Calls Tryd.prog 24 #[v] w fun e w' => e = .returned (.tuple #[zV (goS zs), .bool (goB zs)]) ∧ w' = w := by
  obtain ⟨ao, ac, rfl, _⟩ := h.shape
  have HG : Hid (∀ i, I64 (zs.getD i 0)) := fun i => h.get i
  obtain ⟨_, _, _, hc⟩ := h.cells
  have HN : Hid (∀ i, i < zs.length → zs.getD i 0 < 0 ∨ 1073741824 < zs.getD i 0 → goS zs = 0 ∧ goB zs = false) := fun i hi he => by
    have := okW_not hi he
    exact ⟨if_neg (by rw [this]; decide), by unfold goB; rw [this]; rfl⟩
  have HO : Hid ((∀ i, i < zs.length → 0 ≤ zs.getD i 0 ∧ zs.getD i 0 ≤ 1073741824) → goS zs = tot zs zs.length ∧ goB zs = decide (0 < tot zs zs.length)) := fun he => by
    have := okW_of he
    exact ⟨if_pos this, by unfold goB; rw [this]; rfl⟩
  generalize zs.length = n at *
  have HC : Hid _ := hc
  clear h hc
  generalize goS zs = GS at *
  generalize goB zs = GB at *
  go_enter Tryd.func24, Tryd.ntmps24
  go_wp2
  go_loop [4, 5] (fun sv iv => ∃ j : Nat, j ≤ n ∧ iv = zV j ∧ sv = zV (tot zs j) ∧ 0 ≤ tot zs j ∧ tot zs j ≤ 1073741824 * (j : Int) ∧ Hid (∀ i, i < j → 0 ≤ zs.getD i 0 ∧ zs.getD i 0 ≤ 1073741824)) (fun _ iv => n - (RowKit.intOf iv).toNat)
  case atStart => exact ⟨0, Nat.zero_le _, rfl, rfl, by simp [tot], by simp [tot], fun i hi => absurd hi (Nat.not_lt_zero _)⟩
  case round =>
    obtain ⟨j, hj, rfl, rfl, t0, t1, HA⟩ := hrel
    by_cases hlt : j < n
    · obtain ⟨b, off, rfl, _, _, hcell⟩ := HC.out (by omega)
      have g1 := hcell j hlt
      have hlt' : (j : Int) < (n : Int) := by omega
      have HB : Hid (0 ≤ zs.getD j 0 ∧ zs.getD j 0 ≤ 1073741824 → ∀ i, i < j + 1 → 0 ≤ zs.getD i 0 ∧ zs.getD i 0 ≤ 1073741824) := fun hz i hi => by
        by_cases e : i = j
        · subst e; exact hz
        · exact HA.out i (by omega)
      have HN' : Hid _ := HN.out j hlt
      have HS : Hid (tot zs (j + 1) = tot zs j + zs.getD j 0) := rfl
      obtain ⟨x0, x1⟩ := HG.out j
      clear hcell HC HN HA HG HO
      generalize zs.getD j 0 = x at *
      generalize tot zs j = T at *
      by_cases c0 : x < 0
      · obtain ⟨e1, e2⟩ := HN'.out (.inl c0)
        subst e1
        subst e2
        go_wp2
        go_ret2
        exact ⟨rfl, rfl⟩
      · by_cases c1 : 1073741824 < x
        · obtain ⟨e1, e2⟩ := HN'.out (.inr c1)
          subst e1
          subst e2
          go_wp2
          go_ret2
          exact ⟨rfl, rfl⟩
        · go_wp2
          go_round
          case rel => exact ⟨j + 1, hlt, by go_num, by rw [HS.out], by rw [HS.out]; omega, by rw [HS.out]; omega, HB.out (by omega)⟩
          case measure => simp [RowKit.intOf]; omega
    · obtain rfl : j = n := by omega
      obtain ⟨e1, e2⟩ := HO.out HA.out
      subst e1
      subst e2
      clear HC HN HG HO
      go_wp2
      go_ret2
      exact ⟨rfl, rfl⟩

set_option maxHeartbeats 2000000 in
set_option maxRecDepth 100000 in
theorem refMean_any (p q : Nat → Prop) (wv vv : Value) (ws vs : List Int) (w : World) (hw : Rk .i64 p w wv ws) (hv : Rk .i8 q w vv vs) :
    Calls Tryd.prog 14 #[wv, vv] w fun e w' => e = .returned (.tuple #[.int .i8 (meV ws vs), zV (meE ws vs.length)]) ∧ Drew w w' := by
  have HW : Hid (ws.length ≤ 512 → _) := fun (h : ws.length ≤ 512) => good_any p wv ws w hw h
  have hm := hv.many
  have hm2 := hw.many
  obtain ⟨ao, ac, rfl, _⟩ := hw.shape
  obtain ⟨bo, bc, rfl, _⟩ := hv.shape
  by_cases q1 : ws.length = vs.length
  · by_cases q2 : ws.length ≤ 512
    · have HW' : Hid (Unit → _) := fun (_ : Unit) => HW.out q2
      have q2' : (ws.length : Int) ≤ 512 := by omega
      clear HW
      cases hB : goB ws with
      | true =>
        have hO : okW ws = true := by
          unfold goB at hB
          exact (Bool.and_eq_true_iff.1 hB).1
        have hT : 0 < tot ws ws.length := by
          unfold goB at hB
          exact of_decide_eq_true (Bool.and_eq_true_iff.1 hB).2
        have h0 : meE ws vs.length = 0 := meE_ok q1 (by omega) hO (by omega)
        have hS : goS ws = tot ws ws.length := if_pos hO
        have hV : meV ws vs = meF ws vs := meV_ok h0
        have HV8 : Hid (∀ i, C8 (vs.getD i 0)) := fun i => hv.get i
        have hT2 := (tot_i64 hO (n := ws.length) (by omega)).2
        obtain ⟨b1, b2⟩ := dt_bound (okW_get hO) HV8.out ws.length
        have HX0 := fun (W : World) => refFloor_ok (2 * dt ws vs ws.length + tot ws ws.length) (2 * tot ws ws.length) W ⟨by omega, by omega⟩ (by omega) (by omega)
        obtain ⟨m0, m1⟩ := mean_between hT rfl b1 b2
        have HD : Hid (∀ j, j < ws.length → (-70368744177664 ≤ dt ws vs j ∧ dt ws vs j ≤ 70368744177664) ∧ (-137438953472 ≤ ws.getD j 0 * vs.getD j 0 ∧ ws.getD j 0 * vs.getD j 0 ≤ 137438953472)) := fun j hj => by
          have h1 := dt_bound (okW_get hO) HV8.out j
          have h2 := tot_i64 hO (n := j) (by omega)
          have h3 := okW_get hO j
          have h4 := HV8.out j
          exact ⟨by omega, mul_w h3.1 h3.2 h4.1 h4.2⟩
        have HM : Hid (meF ws vs = (2 * dt ws vs ws.length + tot ws ws.length) / (2 * tot ws ws.length)) := rfl
        rw [hB, hS] at HW'
        rw [h0, hV, HM.out]
        generalize (2 * dt ws vs ws.length + tot ws ws.length) / (2 * tot ws ws.length) = M at *
        generalize (2 * dt ws vs ws.length + tot ws ws.length) % (2 * tot ws ws.length) = R at *
        have HX : Hid (∀ W : World, _) := HX0
        clear HX0
        rw [← q1] at hv hm ⊢
        have HC1 : Hid _ := hw.stay
        have HC2 : Hid _ := hv.stay
        clear hw hv hS hV hO h0 q1 HM hB
        generalize ws.length = n at *
        generalize tot ws n = T at *
        go_enter Tryd.func14, Tryd.ntmps14
        go_wp2_with fail
        refine (HW'.out ()).mono ?_
        rintro e w1 ⟨rfl, hw1⟩
        have hw2 := hw1.symm
        subst hw2
        clear hw1 HW'
        go_wp2
        go_loopw [8, 9] (fun sv iv wr => ∃ j d : Nat, j ≤ n ∧ iv = zV j ∧ sv = zV (dt ws vs j) ∧ wr = w.drewN d) (fun _ iv _ => n - (RowKit.intOf iv).toNat)
        case atStart => exact ⟨0, 0, Nat.zero_le _, rfl, rfl, rfl⟩
        case round =>
          obtain ⟨j, d, hj, rfl, rfl, rfl⟩ := hrel
          by_cases hlt : j < n
          · obtain ⟨b, off, rfl, hcell⟩ := HC1.out (by omega)
            obtain ⟨b2, off2, rfl, hcell2⟩ := HC2.out (by omega)
            have g1 := hcell w (Kept.refl _ _) j hlt
            have g2 := hcell2 w (Kept.refl _ _) j hlt
            have hlt' : (j : Int) < (n : Int) := by omega
            obtain ⟨⟨d0, d1⟩, m0', m1'⟩ := HD.out j hlt
            obtain ⟨c0, c1⟩ := HV8.out j
            have HS : Hid (dt ws vs (j + 1) = dt ws vs j + ws.getD j 0 * vs.getD j 0) := rfl
            clear hcell hcell2 HC1 HC2 HD HV8 HX m0 m1 b1
            generalize ws.getD j 0 = x at *
            generalize vs.getD j 0 = y at *
            generalize dt ws vs j = D at *
            obtain ⟨P, hP⟩ : ∃ P, x * y = P := ⟨_, rfl⟩
            rw [hP] at m0' m1' HS
            go_wp2_with fail
            go_quiet (fail)
            go_wp2
            go_roundw
            case rel => exact ⟨j + 1, d + nq, hlt, by go_num, by rw [HS.out], rfl⟩
            case measure => simp [RowKit.intOf]; omega
          · obtain rfl : j = n := by omega
            clear HC1 HC2 HD HV8
            generalize dt ws vs j = D at *
            go_wp2_with fail
            refine (HX.out _).mono ?_
            rintro e w2 ⟨rfl, d2, hw2⟩
            have HF2 : Hid (Drew w w2) := ⟨d + d2, by rw [hw2, World.drewN_drewN]⟩
            clear hw2 HX
            go_wp2
            go_ret2
            exact ⟨rfl, HF2.out⟩
      | false =>
        have h0 : meE ws vs.length = 110 := meE_mean q1 (by omega) (by
          cases hO : okW ws with
          | false => exact .inl rfl
          | true =>
            right
            unfold goB at hB
            rw [hO, Bool.true_and, decide_eq_false_iff_not] at hB
            have := tot_i64 hO (n := ws.length) (by omega)
            omega)
        rw [meV_bad (by rw [h0]; decide), h0]
        rw [hB] at HW'
        rw [← q1] at hm ⊢
        clear hw hv h0 q1 hB
        generalize goS ws = S at *
        generalize ws.length = n at *
        go_enter Tryd.func14, Tryd.ntmps14
        go_wp2_with fail
        refine (HW'.out ()).mono ?_
        rintro e w1 ⟨rfl, hw1⟩
        have hw2 := hw1.symm
        subst hw2
        clear hw1 HW'
        go_wp2
        go_ret2
        exact ⟨rfl, Drew.refl _⟩
    · have h0 : meE ws vs.length = 1 := meE_arg (.inr (by omega))
      rw [meV_bad (by rw [h0]; decide), h0]
      rw [← q1] at hm ⊢
      have q2' : (512 : Int) < (ws.length : Int) := by omega
      clear hw hv h0 q1 HW q2
      generalize ws.length = n at *
      go_enter Tryd.func14, Tryd.ntmps14
      go_wp2
      go_ret2
      exact ⟨rfl, Drew.refl _⟩
  · have h0 : meE ws vs.length = 1 := meE_arg (.inl q1)
    rw [meV_bad (by rw [h0]; decide), h0]
    have q1' : ¬ (ws.length : Int) = (vs.length : Int) := by omega
    clear hw hv h0 q1 HW
    generalize ws.length = n at *
    generalize vs.length = m at *
    go_enter Tryd.func14, Tryd.ntmps14
    go_wp2
    go_ret2
    exact ⟨rfl, Drew.refl _⟩
end Go.Proofs.YtkolpdfakhlkeaaDoor
