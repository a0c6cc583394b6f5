/-
  A mean by weights, the package's.
-/
import Derived.Test.YtkolpdfakhlkeaaDoorSfN
import Derived.Test.YtkolpdfakhlkeaaDoorFil
namespace Go.Proofs.YtkolpdfakhlkeaaDoor
open Go.RowKit Go.Lib Go.Maps

theorem okW_all {w : List Int} (h : ∀ i, i < w.length → 0 ≤ w.getD i 0 ∧ w.getD i 0 ≤ 1073741824) : okW w = true := okW_of h
set_option maxHeartbeats 1000000 in
set_option maxRecDepth 100000 in
theorem weighty_any (p : Nat → Prop) (v : Value) (zs : List Int) (w : World) (h : Rk .i64 p w v zs) :
    Calls Tryd.prog 29 #[v] w fun e w' => e = .returned (.bool (okW zs)) ∧ w' = w := by
  obtain ⟨ao, ac, rfl, _⟩ := h.shape
  have hm := h.many
  have HG : Hid (∀ i, I64 (zs.getD i 0)) := fun i => h.get i
  obtain ⟨_, _, _, hc⟩ := h.cells
  have HN : Hid (∀ i, i < zs.length → zs.getD i 0 < 0 ∨ 1073741824 < zs.getD i 0 → okW zs = false) := fun i hi => okW_not hi
  have HO : Hid ((∀ i, i < zs.length → 0 ≤ zs.getD i 0 ∧ zs.getD i 0 ≤ 1073741824) → okW zs = true) := okW_all
  generalize zs.length = n at *
  have HC : Hid _ := hc
  clear h hc
  generalize okW zs = O at *
  go_enter Tryd.func29, Tryd.ntmps29
  go_wp2
  go_loop [7] (fun iv => ∃ j : Nat, j ≤ n ∧ iv = zV j ∧ Hid (∀ i, i < j → 0 ≤ zs.getD i 0 ∧ zs.getD i 0 ≤ 1073741824)) (fun iv => n - (RowKit.intOf iv).toNat)
  case atStart => exact ⟨0, Nat.zero_le _, rfl, fun i hi => absurd hi (Nat.not_lt_zero _)⟩
  case round =>
    obtain ⟨j, hj, rfl, HA⟩ := hrel
    by_cases hlt : j < n
    · obtain ⟨b, off, rfl, _, _, hcell⟩ := HC.out (by omega)
      have g1 := hcell j hlt
      have hlt' : (j : Int) < (n : Int) := by omega
      have HB : Hid (0 ≤ zs.getD j 0 ∧ zs.getD j 0 ≤ 1073741824 → ∀ i, i < j + 1 → 0 ≤ zs.getD i 0 ∧ zs.getD i 0 ≤ 1073741824) := fun hz i hi => by
        by_cases e : i = j
        · subst e; exact hz
        · exact HA.out i (by omega)
      have HN' : Hid _ := HN.out j hlt
      obtain ⟨x0, x1⟩ := HG.out j
      clear hcell HC HN HA HG HO
      generalize zs.getD j 0 = x at *
      by_cases c0 : x < 0
      · have e := HN'.out (.inl c0)
        subst e
        go_wp2
        go_ret
        exact ⟨rfl, rfl⟩
      · by_cases c1 : 1073741824 < x
        · have e := HN'.out (.inr c1)
          subst e
          go_wp2
          go_ret
          exact ⟨rfl, rfl⟩
        · go_wp2
          go_round
          case rel => exact ⟨j + 1, hlt, by go_num, HB.out (by omega)⟩
          case measure => simp [RowKit.intOf]; omega
    · obtain rfl : j = n := by omega
      have e := HO.out HA.out
      subst e
      clear HC HN HG HO
      go_wp2
      go_ret
      exact ⟨rfl, rfl⟩

/-- The sum of the weights; 0, if something is wrong. -/
def meS (w : List Int) (n : Nat) : Int := if meE w n = 0 then tot w w.length else 0
theorem tot_i64 {w : List Int} (h : okW w = true) {n : Nat} (hn : n ≤ 512) : 0 ≤ tot w n ∧ tot w n ≤ 549755813888 := by
  have := tot_bound (okW_get h) n
  omega
set_option maxHeartbeats 1000000 in
set_option maxRecDepth 100000 in
theorem weighed_any (p : Nat → Prop) (v : Value) (zs : List Int) (n : Nat) (w : World) (h : Rk .i64 p w v zs) (hn : n ≤ 140737488351232) :
    Calls Tryd.prog 22 #[v, zV n] w fun e w' => e = .returned (.tuple #[zV (meS zs n), zV (meE zs n)]) ∧ Drew w w' := by
  have HW : Hid (Unit → _) := fun (_ : Unit) => weighty_any p v zs w h
  have HS : Hid (Unit → _) := fun (_ : Unit) => sum_any p v zs w h.rw
  have hm := h.many
  obtain ⟨ao, ac, rfl, _⟩ := h.shape
  clear h
  by_cases q1 : zs.length = n
  · subst q1
    by_cases q2 : 512 < zs.length
    · have he := meE_arg (w := zs) (n := zs.length) (.inr q2)
      unfold meS
      rw [he, if_neg (by decide)]
      have q2' : (512 : Int) < (zs.length : Int) := by omega
      clear HW HS he
      generalize zs.length = n at *
      go_enter Tryd.func22, Tryd.ntmps22
      go_wp2
      go_ret2
      exact ⟨rfl, Drew.refl _⟩
    · have q2' : (zs.length : Int) ≤ 512 := by omega
      cases hO : okW zs with
      | false =>
        have he := meE_mean (w := zs) rfl (by omega) (.inl hO)
        unfold meS
        rw [he, if_neg (by decide)]
        rw [hO] at HW
        clear HS he hO
        generalize zs.length = n at *
        go_enter Tryd.func22, Tryd.ntmps22
        go_wp2_with fail
        refine (HW.out ()).mono ?_
        rintro e w1 ⟨rfl, hw1⟩
        have hw2 := hw1.symm
        subst hw2
        clear hw1 HW
        go_wp2
        go_ret2
        exact ⟨rfl, Drew.refl _⟩
      | true =>
        obtain ⟨t0, t1⟩ := tot_i64 hO (n := zs.length) (by omega)
        rw [hO] at HW
        rw [(in_in (T := tot zs zs.length) ⟨by omega, by omega⟩).1, (in_in (T := tot zs zs.length) ⟨by omega, by omega⟩).2] at HS
        by_cases q3 : tot zs zs.length = 0
        · have he := meE_mean (w := zs) rfl (by omega) (.inr q3)
          unfold meS
          rw [he, if_neg (by decide)]
          rw [q3] at HS
          clear he hO q3 t0 t1
          generalize zs.length = n at *
          go_enter Tryd.func22, Tryd.ntmps22
          go_wp2_with fail
          refine (HW.out ()).mono ?_
          rintro e w1 ⟨rfl, hw1⟩
          have hw2 := hw1.symm
          subst hw2
          clear hw1 HW
          go_wp2_with fail
          refine (HS.out ()).mono ?_
          rintro e w1 ⟨rfl, hw1⟩
          have HD : Hid (Drew w w1) := hw1
          clear hw1 HS
          go_wp2
          go_ret2
          exact ⟨rfl, HD.out⟩
        · have he := meE_ok (w := zs) rfl (by omega) hO q3
          unfold meS
          rw [he, if_pos rfl]
          clear he hO
          generalize tot zs zs.length = T at *
          generalize zs.length = n at *
          have q3' : (T == 0) = false := by simp [q3]
          go_enter Tryd.func22, Tryd.ntmps22
          go_wp2_with fail
          refine (HW.out ()).mono ?_
          rintro e w1 ⟨rfl, hw1⟩
          have hw2 := hw1.symm
          subst hw2
          clear hw1 HW
          go_wp2_with fail
          refine (HS.out ()).mono ?_
          rintro e w1 ⟨rfl, hw1⟩
          have HD : Hid (Drew w w1) := hw1
          clear hw1 HS
          go_wp2
          go_ret2
          exact ⟨rfl, HD.out⟩
  · have he := meE_arg (w := zs) (n := n) (.inl q1)
    unfold meS
    rw [he, if_neg (by decide)]
    have q1' : ¬ (zs.length : Int) = (n : Int) := by omega
    clear HW HS he q1
    generalize zs.length = m at *
    go_enter Tryd.func22, Tryd.ntmps22
    go_wp2
    go_ret2
    exact ⟨rfl, Drew.refl _⟩

set_option maxHeartbeats 1000000 in
theorem nearest_any (d s : Int) (w : World) (hs : 0 < s) (hs2 : s ≤ 549755813888) (h1 : -128 * s ≤ d) (h2 : d ≤ 127 * s) :
    Calls Tryd.prog 23 #[zV d, zV s] w fun e w' => e = .returned (.int .i8 ((2 * d + s) / (2 * s))) ∧ Drew w w' := by
  have HF : Hid (Unit → _) := fun (_ : Unit) => floor_ok (2 * d + s) (2 * s) w ⟨by omega, by omega⟩ (by omega) (by omega)
  obtain ⟨m0, m1⟩ := mean_between hs rfl h1 h2
  generalize (2 * d + s) / (2 * s) = m at *
  go_enter Tryd.func23, Tryd.ntmps23
  go_wp2_with fail
  refine (HF.out ()).mono ?_
  rintro e w1 ⟨rfl, hw1⟩
  have HD : Hid (Drew w w1) := hw1
  clear hw1 HF
  generalize (2 * d + s) % (2 * s) = r at *
  go_wp2
  go_ret
  exact ⟨rfl, HD.out⟩

theorem mul_w {a c : Int} (h1 : 0 ≤ a) (h2 : a ≤ 1073741824) (h3 : -128 ≤ c) (h4 : c ≤ 127) : -137438953472 ≤ a * c ∧ a * c ≤ 137438953472 := by
  have m1 := Int.mul_le_mul_of_nonneg_left h3 h1
  have m2 := Int.mul_le_mul_of_nonneg_left h4 h1
  omega
set_option maxHeartbeats 2000000 in
set_option maxRecDepth 100000 in
theorem Mean_any (p q : Nat → Prop) (wv vv : Value) (ws vs : List Int) (w : World) (hw : Rk .i64 p w wv ws) (hv : Rk .i8 q w vv vs) :
    Calls Tryd.prog 13 #[wv, vv] w fun e w' => e = .returned (.tuple #[.int .i8 (meV ws vs), zV (meE ws vs.length)]) ∧ Drew w w' := by
  have HW : Hid (Unit → _) := fun (_ : Unit) => weighed_any p wv ws vs.length w hw hv.many
  have hm := hv.many
  obtain ⟨ao, ac, rfl, _⟩ := hw.shape
  obtain ⟨bo, bc, rfl, _⟩ := hv.shape
  by_cases h0 : meE ws vs.length = 0
  · obtain ⟨e1, e2, hO, hT⟩ := meE_zero h0
    have hS : meS ws vs.length = tot ws ws.length := if_pos h0
    have hV : meV ws vs = meF ws vs := meV_ok h0
    have HV8 : Hid (∀ i, C8 (vs.getD i 0)) := fun i => hv.get i
    have HX0 := fun W => nearest_any (dt ws vs ws.length) (tot ws ws.length) W (by have := tot_i64 hO (n := ws.length) (by omega); omega) (tot_i64 hO (n := ws.length) (by omega)).2 (dt_bound (okW_get hO) HV8.out _).1 (dt_bound (okW_get hO) HV8.out _).2
    have HD : Hid (∀ j, j < ws.length → (-70368744177664 ≤ dt ws vs j ∧ dt ws vs j ≤ 70368744177664) ∧ (-137438953472 ≤ ws.getD j 0 * vs.getD j 0 ∧ ws.getD j 0 * vs.getD j 0 ≤ 137438953472)) := fun j hj => by
      have h1 := dt_bound (okW_get hO) HV8.out j
      have h2 := tot_i64 hO (n := j) (by omega)
      have h3 := okW_get hO j
      have h4 := HV8.out j
      exact ⟨by omega, mul_w h3.1 h3.2 h4.1 h4.2⟩
    have HM : Hid (meF ws vs = (2 * dt ws vs ws.length + tot ws ws.length) / (2 * tot ws ws.length)) := rfl
    rw [h0, hS] at HW
    rw [h0, hV, HM.out]
    generalize (2 * dt ws vs ws.length + tot ws ws.length) / (2 * tot ws ws.length) = M at *
    have HX : Hid (∀ W : World, _) := HX0
    clear HX0
    rw [← e1] at hv HW hm ⊢
    have HC1 : Hid _ := hw.stay
    have HC2 : Hid _ := hv.stay
    clear hw hv hS hV hT hO h0 e1 HM
    generalize ws.length = n at *
    generalize tot ws n = T at *
    go_enter Tryd.func13, Tryd.ntmps13
    go_wp2_with fail
    refine (HW.out ()).mono ?_
    rintro e w1 ⟨rfl, d1, hw1⟩
    have HF : Hid (Drew w w1) := ⟨d1, hw1⟩
    clear hw1 HW
    go_wp2
    go_loop [8, 23] (fun sv iv => ∃ j : Nat, j ≤ n ∧ iv = zV j ∧ sv = zV (dt ws vs j)) (fun _ iv => n - (RowKit.intOf iv).toNat)
    case atStart => exact ⟨0, Nat.zero_le _, rfl, rfl⟩
    case round =>
      obtain ⟨j, hj, rfl, rfl⟩ := hrel
      by_cases hlt : j < n
      · obtain ⟨b, off, rfl, hcell⟩ := HC1.out (by omega)
        obtain ⟨b2, off2, rfl, hcell2⟩ := HC2.out (by omega)
        have g1 := hcell w1 HF.out.fresh j hlt
        have g2 := hcell2 w1 HF.out.fresh j hlt
        have hlt' : (j : Int) < (n : Int) := by omega
        obtain ⟨⟨d0, d1⟩, m0, m1⟩ := HD.out j hlt
        obtain ⟨c0, c1⟩ := HV8.out j
        have HS : Hid (dt ws vs (j + 1) = dt ws vs j + ws.getD j 0 * vs.getD j 0) := rfl
        clear hcell hcell2 HC1 HC2 HD HV8 HX
        generalize ws.getD j 0 = x at *
        generalize vs.getD j 0 = y at *
        generalize dt ws vs j = D at *
        obtain ⟨P, hP⟩ : ∃ P, x * y = P := ⟨_, rfl⟩
        rw [hP] at m0 m1 HS
        go_wp2
        go_round
        case rel => exact ⟨j + 1, hlt, by go_num, by rw [HS.out]⟩
        case measure => simp [RowKit.intOf]; omega
      · obtain rfl : j = n := by omega
        clear HC1 HC2 HD HV8
        generalize dt ws vs j = D at *
        go_wp2_with fail
        refine (HX.out _).mono ?_
        rintro e w2 ⟨rfl, d2, hw2⟩
        have HF2 : Hid (Drew w w2) := by show Drew _ _; rw [hw2]; exact HF.out.more d2
        clear hw2 HX HF
        go_wp2
        go_ret2
        exact ⟨rfl, HF2.out⟩
  · have hS : meS ws vs.length = 0 := if_neg h0
    rw [meV_bad h0]
    rw [hS] at HW
    have h0' : (meE ws vs.length == 0) = false := by simp [h0]
    clear hw hv hS
    generalize meE ws vs.length = E at *
    generalize vs.length = n at *
    go_enter Tryd.func13, Tryd.ntmps13
    go_wp2_with fail
    refine (HW.out ()).mono ?_
    rintro e w1 ⟨rfl, hw1⟩
    have HF : Hid (Drew w w1) := hw1
    clear hw1 HW
    go_wp2
    go_ret2
    exact ⟨rfl, HF.out⟩
end Go.Proofs.YtkolpdfakhlkeaaDoor
