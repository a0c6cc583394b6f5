/-
  A row turned, the package's.
-/
import Derived.Test.YtkemaofclahaiaaDoorRoa
import Derived.Test.YtkemaofclahaiaaDoorFil
import Derived.BigQuiet
namespace Go.Proofs.YtkemaofclahaiaaDoor
open Go.RowKit Go.Lib Go.Maps

set_option maxHeartbeats 400000 in
theorem turn1_any (a b c s : Int) (w : World) (ha : C8 a) (hb : C8 b) (hc : C8 c) (hs : C8 s) :
    Calls Tryd.prog 22 #[zV a, zV b, zV c, zV s] w fun e w' => e = .returned (.tuple #[zV (a * c - 1 * (b * s)), zV (b * c + 1 * (a * s))]) ∧ w' = w := by
  have h1 := mul8 ha hc
  have h2 := mul8 hb hs
  have h3 := mul8 ha hs
  have h4 := mul8 hb hc
  clear ha hb hc hs
  rw [Int.one_mul, Int.one_mul]
  obtain ⟨A, hA⟩ : ∃ A, a * c = A := ⟨_, rfl⟩
  obtain ⟨B, hB⟩ : ∃ B, b * s = B := ⟨_, rfl⟩
  obtain ⟨C, hC⟩ : ∃ C, a * s = C := ⟨_, rfl⟩
  obtain ⟨D, hD⟩ : ∃ D, b * c = D := ⟨_, rfl⟩
  rw [hA] at h1 ⊢
  rw [hB] at h2 ⊢
  rw [hC] at h3 ⊢
  rw [hD] at h4 ⊢
  go_enter Tryd.func22, Tryd.ntmps22
  go_wp2
  go_ret2
  exact ⟨by simp; omega, rfl⟩

set_option maxHeartbeats 4000000 in
set_option maxRecDepth 100000 in
theorem turnPair_any (p q r : Nat → Prop) (xv cv sv : Value) (xs cs ss : List Int) (size : Int) (w : World) (hx : Rk .i8 p w xv xs) (hc : Rk .i8 q w cv cs) (hs : Rk .i8 r w sv ss) (hsz : I64 size) :
    Calls Tryd.prog 21 #[xv, zV size, cv, sv, .func (.func 22) #[] #[]] w fun e w' => Gives .i8 33 (toL 1 xs size cs ss) (toE xs.length size cs.length ss.length) w e w' := by
  have HH : Hid (Unit → _) := fun (_ : Unit) => headed_any size w hsz
  have HG : Hid (∀ (E : Int), Gives .i8 33 [] E w (.returned (.tuple #[.slice none 0 0, zV E])) w) := fun E => Gives.none _ _ _ _
  obtain ⟨xo, xc, hxv, _⟩ := hx.shape
  obtain ⟨co, cc, hcv, _⟩ := hc.shape
  obtain ⟨so, sc, hsv, _⟩ := hs.shape
  rcases to_cases xs.length size cs.length ss.length with ⟨h1, h2⟩ | ⟨h1, h1', h2⟩ | ⟨h, h1, rfl, ⟨h3, h2⟩ | ⟨m, h3, h4, ⟨h5, h2⟩ | ⟨h5, h6, h2⟩ | ⟨h5, h6, h2⟩⟩⟩
  · rw [toL_bad (by rw [h2]; decide), h2]
    rw [show (decide (2 ≤ size) && decide (size % 2 = 0)) = false by simp; omega] at HH
    subst hxv hcv hsv
    clear hx hc hs h2 hsz
    go_enter Tryd.func21, Tryd.ntmps21
    go_wp2_with fail
    refine (HH.out ()).mono ?_
    rintro e w1 ⟨rfl, rfl⟩
    go_wp2
    go_ret2
    exact HG.out _
  · rw [toL_bad (by rw [h2]; decide), h2]
    rw [show (decide (2 ≤ size) && decide (size % 2 = 0)) = false by simp; omega] at HH
    subst hxv hcv hsv
    clear hx hc hs h2 hsz
    go_enter Tryd.func21, Tryd.ntmps21
    go_wp2_with fail
    refine (HH.out ()).mono ?_
    rintro e w1 ⟨rfl, rfl⟩
    go_wp2
    go_ret2
    exact HG.out _
  · rw [toL_bad (by rw [h2]; decide), h2]
    rw [show (decide (2 ≤ 2 * (h : Int)) && decide (2 * (h : Int) % 2 = 0)) = true by simp; omega] at HH
    obtain ⟨z0, z1⟩ := hsz
    have hm : (xs.length : Int).tmod (2 * (h : Int)) = (xs.length : Int) % (2 * (h : Int)) := Int.tmod_eq_emod_of_nonneg (by omega)
    subst hxv hcv hsv
    generalize (xs.length : Int) % (2 * (h : Int)) = M at *
    clear hx hc hs h2
    go_enter Tryd.func21, Tryd.ntmps21
    go_wp2_with fail
    refine (HH.out ()).mono ?_
    rintro e w1 ⟨rfl, rfl⟩
    go_wp2
    go_ret2
    exact HG.out _
  · rw [toL_bad (by rw [h2]; decide), h2]
    rw [show (decide (2 ≤ 2 * (h : Int)) && decide (2 * (h : Int) % 2 = 0)) = true by simp; omega] at HH
    obtain ⟨z0, z1⟩ := hsz
    have hm : (xs.length : Int).tmod (2 * (h : Int)) = 0 := (Int.tmod_eq_emod_of_nonneg (by omega)).trans h4
    have hd : (2 * (h : Int)).tdiv 2 = h := Int.mul_tdiv_cancel_left _ (by decide)
    have h5' : ¬ (cs.length : Int) = (h : Int) := by omega
    subst hxv hcv hsv
    clear hx hc hs h2 h4
    go_enter Tryd.func21, Tryd.ntmps21
    go_wp2_with fail
    refine (HH.out ()).mono ?_
    rintro e w1 ⟨rfl, rfl⟩
    go_wp2
    go_ret2
    exact HG.out _
  · rw [toL_bad (by rw [h2]; decide), h2]
    rw [show (decide (2 ≤ 2 * (h : Int)) && decide (2 * (h : Int) % 2 = 0)) = true by simp; omega] at HH
    obtain ⟨z0, z1⟩ := hsz
    have hm : (xs.length : Int).tmod (2 * (h : Int)) = 0 := (Int.tmod_eq_emod_of_nonneg (by omega)).trans h4
    have hd : (2 * (h : Int)).tdiv 2 = h := Int.mul_tdiv_cancel_left _ (by decide)
    have h6' : ¬ (ss.length : Int) = (h : Int) := by omega
    subst hxv hcv hsv
    rw [h5]
    clear hx hc hs h2 h4
    go_enter Tryd.func21, Tryd.ntmps21
    go_wp2_with fail
    refine (HH.out ()).mono ?_
    rintro e w1 ⟨rfl, rfl⟩
    go_wp2
    go_ret2
    exact HG.out _
  · rw [toL_ok h2, h2, show (2 * (h : Int) / 2).toNat = h by omega]
    rw [show (decide (2 ≤ 2 * (h : Int)) && decide (2 * (h : Int) % 2 = 0)) = true by simp; omega] at HH
    obtain ⟨z0, z1⟩ := hsz
    have hm : (xs.length : Int).tmod (2 * (h : Int)) = 0 := (Int.tmod_eq_emod_of_nonneg (by omega)).trans h4
    have hd : (2 * (h : Int)).tdiv 2 = h := Int.mul_tdiv_cancel_left _ (by decide)
    have hmany := hx.many
    have hev : xs.length % 2 = 0 := by rw [h3, Nat.mul_comm, Nat.mul_assoc]; exact Nat.mul_mod_right _ _
    have HX : Hid (∀ P, _) := fun (P : Nat) => (⟨hx.get (2 * P), hx.get (2 * P + 1), hc.get (P % h), hs.get (P % h)⟩ : C8 (xs.getD (2 * P) 0) ∧ C8 (xs.getD (2 * P + 1) 0) ∧ C8 (cs.getD (P % h) 0) ∧ C8 (ss.getD (P % h) 0))
    subst hxv hcv hsv
    have HC1 : Hid _ := hx.stay
    have HC2 : Hid _ := hc.stay
    have HC3 : Hid _ := hs.stay
    rw [h5] at HC2 ⊢
    rw [h6] at HC3 ⊢
    have hlen : Hid (xs.length = m * (2 * h)) := h3
    generalize xs.length = n at *
    have hmk := run_mk ty8 n n (Nat.le_refl _) (by simp [kb]; omega) w
    have hFil : Fil .i8 33 w n (tuF 1 xs cs ss h) 0 (w.alloc (.cells ((List.replicate n (0 : Int)).map (Value.int .i8)).toArray 33)) := Fil.start w n _ (by omega)
    generalize w.alloc (.cells ((List.replicate n (0 : Int)).map (Value.int .i8)).toArray 33) = W0 at *
    have HW0 : Hid _ := hFil
    clear hx hc hs h2 h4 h5 h6 h3 hFil HG
    go_enter Tryd.func21, Tryd.ntmps21
    go_wp2_with fail
    refine (HH.out ()).mono ?_
    rintro e w1 ⟨rfl, hw1⟩
    have hw2 := hw1.symm
    subst hw2
    clear HH hw1
    go_wp2
    clear hmk
    go_loopw [14] (fun iv wr => ∃ P : Nat, 2 * P ≤ n ∧ iv = zV ((2 * P : Nat) : Int) ∧ Hid (Fil .i8 33 w n (tuF 1 xs cs ss h) (2 * P) wr)) (fun iv _ => n - (RowKit.intOf iv).toNat)
    case atStart => exact ⟨0, Nat.zero_le _, rfl, HW0.out⟩
    case round =>
      obtain ⟨P, hP, rfl, HA⟩ := hrel
      clear HW0
      by_cases hlt : 2 * P < n
      · obtain ⟨b1, o1, rfl, hc1⟩ := HC1.out (by omega)
        obtain ⟨b2, o2, rfl, hc2⟩ := HC2.out (by omega)
        obtain ⟨b3, o3, rfl, hc3⟩ := HC3.out (by omega)
        have hPh : P % h < h := Nat.mod_lt _ (by omega)
        have g1 := hc1 wr HA.out.2 (2 * P) (by omega)
        have g2 := hc1 wr HA.out.2 (2 * P + 1) (by omega)
        have g3 := hc2 wr HA.out.2 (P % h) hPh
        have g4 := hc3 wr HA.out.2 (P % h) hPh
        obtain ⟨k1, k2, k3, k4⟩ := HX.out P
        have HT : Hid (∀ W : World, _) := fun (W : World) => turn1_any (xs.getD (2 * P) 0) (xs.getD (2 * P + 1) 0) (cs.getD (P % h) 0) (ss.getD (P % h) 0) W k1 k2 k3 k4
        have hb1 := sum_i64 k1 k2 k3 k4
        have hb2 := sum_i64 k2 k1 k3 k4
        have HE1 : Hid (rnd (xs.getD (2 * P) 0 * cs.getD (P % h) 0 - 1 * (xs.getD (2 * P + 1) 0 * ss.getD (P % h) 0)) = tuF 1 xs cs ss h (2 * P)) := (tuF_even _ _ _ _ _ _).symm
        have HE2 : Hid (rnd (xs.getD (2 * P + 1) 0 * cs.getD (P % h) 0 + 1 * (xs.getD (2 * P) 0 * ss.getD (P % h) 0)) = tuF 1 xs cs ss h (2 * P + 1)) := (tuF_odd _ _ _ _ _ _).symm
        have HR1 : Hid (∀ W : World, _) := fun (W : World) => rounded_any (xs.getD (2 * P) 0 * cs.getD (P % h) 0 - 1 * (xs.getD (2 * P + 1) 0 * ss.getD (P % h) 0)) W ⟨by omega, by omega⟩
        have HR2 : Hid (∀ W : World, _) := fun (W : World) => rounded_any (xs.getD (2 * P + 1) 0 * cs.getD (P % h) 0 + 1 * (xs.getD (2 * P) 0 * ss.getD (P % h) 0)) W ⟨by omega, by omega⟩
        rw [HE1.out] at HR1
        rw [HE2.out] at HR2
        have hq1 : ((2 * P : Nat) : Int) / 2 = (P : Int) := by omega
        have hq2 : (P : Int) % (h : Int) = ((P % h : Nat) : Int) := rfl
        have hlt1 : ((2 * P : Nat) : Int) < (n : Int) := by omega
        have hlt2 : ((2 * P : Nat) : Int) + 1 < (n : Int) := by omega
        have hlt3 : ((P % h : Nat) : Int) < (h : Int) := by omega
        clear hc1 hc2 hc3 HC1 HC2 HC3 HX hb1 hb2 HE1 HE2
        obtain ⟨k10, k11⟩ := k1
        obtain ⟨k20, k21⟩ := k2
        obtain ⟨k30, k31⟩ := k3
        obtain ⟨k40, k41⟩ := k4
        generalize xs.getD (2 * P) 0 = x1 at *
        generalize xs.getD (2 * P + 1) 0 = x2 at *
        generalize cs.getD (P % h) 0 = c1 at *
        generalize ss.getD (P % h) 0 = s1 at *
        generalize P % h = I at *
        generalize x1 * c1 - 1 * (x2 * s1) = Y1 at *
        generalize x2 * c1 + 1 * (x1 * s1) = Y2 at *
        obtain ⟨Q, hQ⟩ : ∃ Q, 2 * P = Q := ⟨_, rfl⟩
        rw [hQ] at g1 g2 hq1 hlt1 hlt2 HA HR1 HR2 hlt hP ⊢
        go_wp2_with fail
        go_quiet ((go_at_call 22; exact Calls.quiet_of_same (HT.out _)))
        clear HT
        have HA1 : Hid (Fil .i8 33 w n (tuF 1 xs cs ss h) Q (wr.drewN nq)) := HA.out.drew nq
        clear HA g1 g2 g3 g4
        go_wp2_with fail
        refine (HR1.out _).mono ?_
        rintro e w3 ⟨rfl, d3, hw3⟩
        have HA3 : Hid (Fil .i8 33 w n (tuF 1 xs cs ss h) Q w3) := by show Fil _ _ _ _ _ _ _; rw [hw3]; exact HA1.out.drew d3
        clear HR1 HA1 hw3
        go_wp2_with fail
        refine (HR2.out _).mono ?_
        rintro e w4 ⟨rfl, d4, hw4⟩
        have HA4 : Hid (Fil .i8 33 w n (tuF 1 xs cs ss h) Q w4) := by show Fil _ _ _ _ _ _ _; rw [hw4]; exact HA3.out.drew d4
        have f3 := own_frozen HA4.out.1 Q
        have g3 := own_get HA4.out.1 Q (by omega)
        have hA5 := HA4.out.next (by omega : Q < n)
        have f4 := own_frozen hA5.1 (Q + 1)
        have g4 := own_get hA5.1 (Q + 1) (by omega)
        have HXX : Hid (Fil .i8 33 w n (tuF 1 xs cs ss h) (Q + 1 + 1) ((w4.setCell ⟨w.heap.size, Q, none⟩ (.int .i8 (tuF 1 xs cs ss h Q))).setCell ⟨w.heap.size, Q + 1, none⟩ (.int .i8 (tuF 1 xs cs ss h (Q + 1))))) := hA5.next (by omega)
        clear HA3 HR2 hw4 HA4 hA5
        generalize tuF 1 xs cs ss h Q = y1 at *
        generalize tuF 1 xs cs ss h (Q + 1) = y2 at *
        go_wp2
        go_roundw
        case rel => exact ⟨P + 1, by omega, by go_num, by rw [show 2 * (P + 1) = Q + 1 + 1 by omega]; exact HXX.out⟩
        case measure => simp [RowKit.intOf]; omega
      · obtain rfl : n = 2 * P := by omega
        have HXX : Hid (Gives .i8 33 (mkL (2 * P) (tuF 1 xs cs ss h)) 0 w (.returned (.tuple #[.slice (some ⟨w.heap.size, 0, none⟩) (2 * P) (2 * P), zV 0])) wr) := HA.out.done 0
        clear HA HC1 HC2 HC3 HX
        go_wp2
        go_ret2
        exact HXX.out

set_option maxHeartbeats 400000 in
theorem Turn_any (p q r : Nat → Prop) (xv cv sv : Value) (xs cs ss : List Int) (size : Int) (w : World) (hx : Rk .i8 p w xv xs) (hc : Rk .i8 q w cv cs) (hs : Rk .i8 r w sv ss) (hsz : I64 size) :
    Calls Tryd.prog 10 #[xv, zV size, cv, sv] w fun e w' => Gives .i8 33 (toL 1 xs size cs ss) (toE xs.length size cs.length ss.length) w e w' := by
  have H : Hid (Unit → _) := fun (_ : Unit) => turnPair_any p q r xv cv sv xs cs ss size w hx hc hs hsz
  obtain ⟨xo, xc, rfl, _⟩ := hx.shape
  obtain ⟨co, cc, rfl, _⟩ := hc.shape
  obtain ⟨so, sc, rfl, _⟩ := hs.shape
  clear hx hc hs hsz
  generalize toL 1 xs size cs ss = L at *
  generalize toE xs.length size cs.length ss.length = E at *
  go_enter Tryd.func10, Tryd.ntmps10
  go_wp2_with fail
  refine (H.out ()).mono ?_
  rintro e w1 ⟨v, rfl, ho, hF⟩
  have HX : Hid (Gives .i8 33 L E w (.returned (.tuple #[v, zV E])) w1) := ⟨v, rfl, ho, hF⟩
  clear ho hF H
  go_wp2
  go_ret2
  exact HX.out
end Go.Proofs.YtkemaofclahaiaaDoor
