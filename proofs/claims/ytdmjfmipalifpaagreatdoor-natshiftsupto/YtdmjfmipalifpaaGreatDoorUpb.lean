/-
  Up of the program's numbers.
-/
import Derived.Test.YtdmjfmipalifpaaGreatDoorUpa
namespace Go.Proofs.YtdmjfmipalifpaaGreatDoor
open Go.RowKit

def upN (M : Nat) (k : Int) : Nat := if k < 0 then 0 else fitN (M * 2 ^ k.toNat)
def upE (M : Nat) (k : Int) : Int := if k < 0 then 1 else fitE (M * 2 ^ k.toNat)
theorem up_neg {M : Nat} {k : Int} (h : k < 0) : upN M k = 0 ∧ upE M k = 1 := ⟨if_pos h, if_pos h⟩
theorem up_nat (M n : Nat) : upN M (n : Int) = fitN (M * 2 ^ n) ∧ upE M (n : Int) = fitE (M * 2 ^ n) := by
  have h0 : ¬ (n : Int) < 0 := by omega
  exact ⟨if_neg h0, if_neg h0⟩
theorem bl_up {M : Nat} (n : Nat) (h : M ≠ 0) : bl (M * 2 ^ n) = bl M + n := by
  obtain ⟨h1, h2, h3⟩ := bl_pos h
  obtain ⟨j, hj⟩ : ∃ j, bl M = j + 1 := ⟨bl M - 1, by omega⟩
  rw [hj] at h1 h2 ⊢
  rw [Nat.add_sub_cancel] at h1
  rw [show j + 1 + n = (j + n) + 1 by omega]
  refine bl_eq ?_ ?_
  · rw [Nat.pow_add]; exact Nat.mul_le_mul_right _ h1
  · rw [show j + n + 1 = (j + 1) + n by omega, Nat.pow_add (a := 2) (m := j + 1)]
    exact Nat.mul_lt_mul_of_pos_right h2 (Nat.two_pow_pos _)
theorem bl_eq_zero {M : Nat} : bl M = 0 ↔ M = 0 := by
  constructor
  · intro h
    rcases Nat.eq_zero_or_pos M with e | e
    · exact e
    · have := (bl_pos (show M ≠ 0 by omega)).2.2
      omega
  · intro h; rw [h]; rfl

set_option maxHeartbeats 1000000 in
set_option maxRecDepth 100000 in
theorem natUp_any (v : Value) (M : Nat) (k : Int) (w : World) (h : Nm w v M) (hM2 : bl M ≤ 65536) (hk0 : -9223372036854775808 ≤ k) (hk1 : k ≤ 9223372036854775807) :
    Calls Tryz.prog 28 #[.agg #[v], .int .i64 k] w fun e w' => ∃ v', e = .returned (.tuple #[.agg #[v'], .int .i64 (upE M k)]) ∧ (Nm w' v' (upN M k) ∧ Fresh w w') := by
  have HBT : Hid (Unit → _) := fun (_ : Unit) => fun W (hF : Fresh w W) => natBits_any v M W (h.fresh hF)
  by_cases hneg : k < 0
  · obtain ⟨e1, e2⟩ := up_neg (M := M) hneg
    rw [e1, e2]
    obtain ⟨a, n, c, rfl⟩ := h.shape
    have hB := Bx.made w (.slice a n c) (.slice none 0 0)
    have hc1 := hB.c2
    have hf1 := hB.f2
    have R2 := show Hid _ from hB.fr
    clear h HBT e1 e2 hB
    go_enter Tryz.func28, Tryz.ntmps28
    go_wp2
    exact bodyPost_ret (v := .tuple #[.agg #[.slice none 0 0], .int .i64 1]) (by simp [results, Tryz.results28, go_sem, hc1]) rfl ⟨_, rfl, nm_zero _, R2.out⟩
  · obtain ⟨n, rfl⟩ : ∃ n : Nat, k = (n : Int) := ⟨k.toNat, by omega⟩
    obtain ⟨e1, e2⟩ := up_nat M n
    rw [e1, e2]
    clear e1 e2
    by_cases hz : bl M = 0
    · have hM := bl_eq_zero.1 hz
      subst hM
      rw [Nat.zero_mul, show fitN 0 = 0 from (fit_in (by decide)).1, show fitE 0 = 0 from (fit_in (by decide)).2]
      obtain ⟨a, m, c, rfl⟩ := h.shape
      have HB := show Hid _ from Bx.made w (.slice a m c) (.slice none 0 0)
      rw [hz] at HBT
      clear h hz
      go_enter Tryz.func28, Tryz.ntmps28
      go_wp2_with fail
      refine (HBT.out () _ HB.out.fr).mono ?_
      rintro e w1 ⟨rfl, hF1⟩
      have hB1 := Bx.next HB.out hF1
      have hc1 := hB1.c2
      have hf1 := hB1.f2
      obtain ⟨r0, r1, r2⟩ := hB1.store (.slice none 0 0) (nm_zero _)
      have R2 := show Hid _ from r2
      clear HB hF1 hB1 HBT r1 r2
      go_wp2
      exact bodyPost_ret (v := .tuple #[.agg #[.slice none 0 0], .int .i64 0]) (by simp [results, Tryz.results28, go_sem, r0]) rfl ⟨_, rfl, nm_zero _, R2.out⟩
    · have hM : M ≠ 0 := fun e => hz (bl_eq_zero.2 e)
      have hbu := bl_up n hM
      by_cases hbig : 65536 < bl M + n
      · obtain ⟨f1, f2⟩ := fit_out (N := M * 2 ^ n) (by rw [hbu]; exact hbig)
        rw [f1, f2]
        obtain ⟨a, m, c, rfl⟩ := h.shape
        have HB := show Hid _ from Bx.made w (.slice a m c) (.slice none 0 0)
        clear h f1 f2 hbu hM
        generalize bl M = K at *
        have d1 : ((K : Int) == 0) = false := by rw [beq_eq_false_iff_ne]; omega
        have d2 : decide ((65536 : Int) - (K : Int) < (n : Int)) = true := by rw [decide_eq_true_eq]; omega
        go_enter Tryz.func28, Tryz.ntmps28
        go_wp2_with fail
        refine (HBT.out () _ HB.out.fr).mono ?_
        rintro e w1 ⟨rfl, hF1⟩
        have hB1 := Bx.next HB.out hF1
        have hc1 := hB1.c1
        have HB1 := show Hid _ from hB1
        clear HB hF1 hB1
        go_wp2_with fail
        refine (HBT.out () _ HB1.out.fr).mono ?_
        rintro e w2 ⟨rfl, hF2⟩
        have hB2 := Bx.next HB1.out hF2
        have hc2 := hB2.c2
        have hf2 := hB2.f2
        obtain ⟨r0, r1, r2⟩ := hB2.store (.slice none 0 0) (nm_zero _)
        have R2 := show Hid _ from r2
        clear HB1 hF2 hB2 HBT r1 r2 hc1
        go_wp2
        exact bodyPost_ret (v := .tuple #[.agg #[.slice none 0 0], .int .i64 41]) (by simp [results, Tryz.results28, go_sem, r0]) rfl ⟨_, rfl, nm_zero _, R2.out⟩
      · obtain ⟨f1, f2⟩ := fit_in (N := M * 2 ^ n) (by rw [hbu]; omega)
        rw [f1, f2]
        have HUP : Hid (Unit → _) := fun (_ : Unit) => fun W (hF : Fresh w W) => up_any v M n W (h.fresh hF) (by omega) (by omega)
        have HNB : Hid (∀ W v, Nm W v (M * 2 ^ n) → Calls Tryz.prog 37 #[v] W fun e w' => ∃ v', e = .returned (.tuple #[.agg #[v'], .int .i64 0]) ∧ (Nm w' v' (M * 2 ^ n) ∧ Fresh W w')) := fun W v hN => by
          have := number_any v _ W hN
          rw [f1, f2] at this
          exact this
        obtain ⟨a, m, c, rfl⟩ := h.shape
        have HB := show Hid _ from Bx.made w (.slice a m c) (.slice none 0 0)
        obtain ⟨T, hT⟩ : ∃ T, T = M * 2 ^ n := ⟨_, rfl⟩
        rw [← hT] at HUP HNB ⊢
        clear h f1 f2 hbu hM hT
        generalize bl M = K at *
        have d1 : ((K : Int) == 0) = false := by rw [beq_eq_false_iff_ne]; omega
        have d2 : decide ((65536 : Int) - (K : Int) < (n : Int)) = false := by rw [decide_eq_false_iff_not]; omega
        go_enter Tryz.func28, Tryz.ntmps28
        go_wp2_with fail
        refine (HBT.out () _ HB.out.fr).mono ?_
        rintro e w1 ⟨rfl, hF1⟩
        have hB1 := Bx.next HB.out hF1
        have hc1 := hB1.c1
        have HB1 := show Hid _ from hB1
        clear HB hF1 hB1
        go_wp2_with fail
        refine (HBT.out () _ HB1.out.fr).mono ?_
        rintro e w2 ⟨rfl, hF2⟩
        have hB2 := Bx.next HB1.out hF2
        have hc2 := hB2.c1
        have HB2 := show Hid _ from hB2
        clear HB1 hF2 hB2 HBT hc1
        go_wp2_with fail
        refine (HUP.out () _ HB2.out.fr).mono ?_
        rintro e w3 ⟨v3, rfl, hN3, hF3⟩
        obtain ⟨a3, k3, c3, rfl⟩ := hN3.shape
        have HB3 := show Hid _ from Bx.next HB2.out hF3
        have HNU : Hid (Unit → _) := fun (_ : Unit) => HNB.out w3 _ hN3
        clear HB2 hF3 hN3 hc2 HUP HNB
        go_wp2_with fail
        refine (HNU.out ()).mono ?_
        rintro e w4 ⟨v4, rfl, hN4, hF4⟩
        obtain ⟨a4, k4, c4, rfl⟩ := hN4.shape
        have hB4 := Bx.next HB3.out hF4
        have hc4 := hB4.c2
        have hf4 := hB4.f2
        obtain ⟨r0, r1, r2⟩ := hB4.store _ hN4
        have R1 : Hid (Unit → _) := fun (_ : Unit) => r1
        have R2 := show Hid _ from r2
        clear HB3 hF4 hN4 hB4 r1 r2 HNU
        go_wp2
        exact bodyPost_ret (v := .tuple #[.agg #[.slice a4 k4 c4], .int .i64 0]) (by simp [results, Tryz.results28, go_sem, r0]) rfl ⟨_, rfl, R1.out (), R2.out⟩
end Go.Proofs.YtdmjfmipalifpaaGreatDoor
