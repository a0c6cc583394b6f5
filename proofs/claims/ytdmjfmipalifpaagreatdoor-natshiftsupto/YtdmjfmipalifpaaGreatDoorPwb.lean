/-
  The document's Power.
-/
import Derived.Test.YtdmjfmipalifpaaGreatDoorPwa
import Derived.Test.YtdmjfmipalifpaaGreatDoorRfd
import Derived.Test.YtdmjfmipalifpaaGreatDoorRfe
namespace Go.Proofs.YtdmjfmipalifpaaGreatDoor
open Go.RowKit

theorem rn_one (w : World) : Rn (w.alloc (.cells #[.int .i64 1] 3)) (.slice (some ⟨w.heap.size, 0, none⟩) 1 1) 1 :=
  ⟨[1], ⟨_, 1, rfl, ⟨by simp, by simp⟩, by omega, fun _ => ⟨w.heap.size, 0, rfl, trivial, by simp, fun i hi => by
    have : i = 0 := by simp at hi; omega
    subst this
    rw [Lib.cell_of_heap (heap_alloc_new w _)]
    rfl⟩, Dg.one (by omega), fun e => by cases e⟩, by simp [Can], by simp [val]⟩

set_option maxHeartbeats 1000000 in
set_option maxRecDepth 100000 in
theorem refPower_any (v : Value) (M : Nat) (k : Int) (w : World) (h : Rn w v M) (hM2 : bl M ≤ 65536) (hk0 : -9223372036854775808 ≤ k) (hk1 : k ≤ 9223372036854775807) :
    Calls Tryz.prog 33 #[v, .int .i64 k] w fun e w' => ∃ v', e = .returned (.tuple #[v', .int .i64 (pwE M k)]) ∧ (Rn w' v' (pwN M k) ∧ Fresh w w') := by
  have HBT : Hid (Unit → _) := fun (_ : Unit) => refBits_any v M w h
  have HRN : Hid (Unit → _) := fun (_ : Unit) => h
  by_cases hneg : k < 0
  · obtain ⟨e1, e2⟩ := pw_neg (M := M) hneg
    rw [e1, e2]
    obtain ⟨a, n, c, rfl⟩ := h.shape
    clear h HBT HRN e1 e2
    go_enter Tryz.func33, Tryz.ntmps33
    go_wp2
    go_ret2
    exact ⟨_, rfl, rn_nil _, Kept.refl _ _⟩
  · obtain ⟨n, rfl⟩ : ∃ n : Nat, k = (n : Int) := ⟨k.toNat, by omega⟩
    obtain ⟨a, m, c, rfl⟩ := h.shape
    rcases Nat.eq_zero_or_pos n with hz | hz
    · subst hz
      have e : pwN M ((0 : Nat) : Int) = 1 ∧ pwE M ((0 : Nat) : Int) = 0 := by
        by_cases hone : bl M ≤ 1
        · obtain ⟨e1, e2⟩ := pw_one (n := 0) hone
          rw [e1, e2]
          exact ⟨by simp, rfl⟩
        · obtain ⟨e1, e2⟩ := pw_fit (n := 0) hone (by omega)
          rw [e1, e2, Nat.pow_zero]
          exact fit_in (by decide)
      rw [e.1, e.2]
      clear h HBT HRN e
      go_enter Tryz.func33, Tryz.ntmps33
      go_wp2
      go_ret2
      exact ⟨_, rfl, rn_one _, (Kept.refl _ _).alloc _⟩
    · have hz' : ((n : Int) == 0) = false := by rw [beq_eq_false_iff_ne]; omega
      by_cases hone : bl M ≤ 1
      · obtain ⟨e1, e2⟩ := pw_one (n := n) hone
        rw [e1, e2, show min n 1 = 1 by omega, Nat.pow_one]
        clear h e1 e2
        generalize bl M = K at *
        have d1 : decide ((K : Int) ≤ 1) = true := by rw [decide_eq_true_eq]; omega
        go_enter Tryz.func33, Tryz.ntmps33
        go_wp2_with fail
        refine (HBT.out ()).mono ?_
        rintro e w1 ⟨rfl, rfl⟩
        clear HBT
        go_wp2
        go_ret2
        exact ⟨_, rfl, HRN.out (), Kept.refl _ _⟩
      · obtain ⟨P, hP⟩ : ∃ P, P = (bl M - 1) * n := ⟨_, rfl⟩
        have hPI : ((bl M : Int) - 1) * (n : Int) = (P : Int) := by
          rw [hP, show (bl M : Int) - 1 = ((bl M - 1 : Nat) : Int) by omega]; simp
        have hPl : n ≤ 65536 → P ≤ 65535 * 65536 := fun hn => by rw [hP]; exact Nat.mul_le_mul (by omega) hn
        have hPn : n ≤ P := by rw [hP]; exact Nat.le_mul_of_pos_left _ (by omega)
        by_cases hbig : 65536 ≤ n ∨ 65536 ≤ (bl M - 1) * n
        · obtain ⟨e1, e2⟩ := pw_big hone hbig
          rw [e1, e2]
          rw [← hP] at hbig
          clear h e1 e2 hP HRN
          generalize bl M = K at *
          have d1 : decide ((K : Int) ≤ 1) = false := by rw [decide_eq_false_iff_not]; omega
          by_cases hn : 65536 < n
          · have d2 : decide ((65536 : Int) < (n : Int)) = true := by rw [decide_eq_true_eq]; omega
            clear hPI hPl hbig hPn
            go_enter Tryz.func33, Tryz.ntmps33
            go_wp2_with fail
            refine (HBT.out ()).mono ?_
            rintro e w1 ⟨rfl, rfl⟩
            clear HBT
            go_wp2
            go_ret2
            exact ⟨_, rfl, rn_nil _, Kept.refl _ _⟩
          · have d2 : decide ((65536 : Int) < (n : Int)) = false := by rw [decide_eq_false_iff_not]; omega
            have d3 : decide ((65536 : Int) ≤ (P : Int)) = true := by rw [decide_eq_true_eq]; omega
            have hPl' := hPl (by omega)
            clear hPl hbig hPn
            go_enter Tryz.func33, Tryz.ntmps33
            go_wp2_with fail
            refine (HBT.out ()).mono ?_
            rintro e w1 ⟨rfl, rfl⟩
            go_wp2_with fail
            refine (HBT.out ()).mono ?_
            rintro e w1 ⟨rfl, rfl⟩
            clear HBT
            go_wp2
            go_ret2
            exact ⟨_, rfl, rn_nil _, Kept.refl _ _⟩
        · obtain ⟨e1, e2⟩ := pw_fit hone hbig
          rw [e1, e2]
          rw [← hP] at hbig
          have hn : n < 65536 := by omega
          have hPs : P < 65536 := by omega
          have d2 : decide ((65536 : Int) < (n : Int)) = false := by rw [decide_eq_false_iff_not]; omega
          have d3 : decide ((65536 : Int) ≤ (P : Int)) = false := by rw [decide_eq_false_iff_not]; omega
          have hM0 : 1 ≤ M := by
            rcases Nat.eq_zero_or_pos M with e | e
            · rw [e] at hone; exact absurd (show bl 0 ≤ 1 by decide) hone
            · exact e
          have HMO : Hid (∀ i, i ≤ n → bl (M ^ i) ≤ bl (M ^ n)) := fun i hi => bl_mono (Nat.pow_le_pow_right hM0 hi)
          have HM2 := show Hid _ from hM2
          have HPW : Hid (∀ i, M ^ i * M = M ^ (i + 1)) := fun i => (Nat.pow_succ ..).symm
          have d1 : decide (((bl M : Nat) : Int) ≤ 1) = false := by rw [decide_eq_false_iff_not]; omega
          have HBR : Hid (∀ (W : World) (v : Value) (N : Nat), Rn W v N → Calls Tryz.prog 18 #[v] W fun e w' => e = .returned (.int .i64 ((bl N : Nat) : Int)) ∧ w' = W) := fun W v N h => refBits_any v N W h
          have HMU : Hid (∀ (W : World) (x : Value) (N : Nat), Rn W x N → Fresh w W → bl N ≤ 65536 → Calls Tryz.prog 40 #[x, .slice a m c] W fun e w' => ∃ v', e = .returned v' ∧ (Rn w' v' (N * M) ∧ Fresh W w')) := fun W x N hR hF hb => refMul_any x _ N M W hR ((HRN.out ()).fresh hF) (by omega)
          obtain ⟨T, hT⟩ : ∃ T, T = M ^ n := ⟨_, rfl⟩
          obtain ⟨FN, hFN⟩ : ∃ x, x = fitN T := ⟨_, rfl⟩
          obtain ⟨FE, hFE⟩ : ∃ x, x = fitE T := ⟨_, rfl⟩
          rw [← hT, ← hFN, ← hFE]
          have HT := show Hid _ from hT
          have HFN := show Hid _ from hFN
          have HFE := show Hid _ from hFE
          clear h e1 e2 hP hT hFN hFE hM0 hone hbig hPl hPn hM2
          obtain ⟨K, hK⟩ : ∃ K, K = bl M := ⟨_, rfl⟩
          rw [← hK] at d1 hPI HBT
          have HKB : Hid (K ≤ 65536) := by rw [hK]; exact HM2.out
          have hKl := HKB.out
          clear hK
          go_enter Tryz.func33, Tryz.ntmps33
          go_wp2_with fail
          refine (HBT.out ()).mono ?_
          rintro e w1 ⟨rfl, rfl⟩
          go_wp2_with fail
          refine (HBT.out ()).mono ?_
          rintro e w2 ⟨rfl, hw2⟩
          subst hw2
          clear HBT
          go_wp2_with fail
          clear hPI d1 d3
          go_loopw [6, 7] (fun xv iv wr => ∃ i : Nat, i ≤ n ∧ iv = .int .i64 (i : Int) ∧ Hid (Rn wr xv (M ^ i)) ∧ Hid (bl (M ^ i) ≤ 65536) ∧ Hid (Fresh w2 wr)) (fun _ iv _ => n - (intOf iv).toNat)
          case atStart => exact ⟨0, Nat.zero_le _, rfl, rn_one _, by rw [Nat.pow_zero]; show bl 1 ≤ _; decide, (Kept.refl _ _).alloc _⟩
          case round =>
            obtain ⟨i, hi, rfl, HR, HBi, HF⟩ := hrel
            obtain ⟨xa, xn, xc, rfl⟩ := HR.out.shape
            by_cases hlt : i < n
            · have HMul : Hid (Unit → _) := fun (_ : Unit) => HMU.out wr _ _ HR.out HF.out HBi.out
              go_wp2_with fail
              refine (HMul.out ()).mono ?_
              rintro e w3 ⟨yv, rfl, hR3, hF3⟩
              rw [HPW.out] at hR3
              have HBits : Hid (Unit → _) := fun (_ : Unit) => HBR.out w3 _ _ hR3
              obtain ⟨ya, yn, yc, rfl⟩ := hR3.shape
              have HR3 : Hid (Rn w3 (.slice ya yn yc) (M ^ (i + 1))) := hR3
              have HF3 : Hid (Fresh w2 w3) := HF.out.trans hF3 (fun _ _ e => e)
              have hmo := HMO.out (i + 1) (by omega)
              clear HMul hR3 hF3 HR HF HBi
              obtain ⟨L, hL⟩ : ∃ L, L = bl (M ^ (i + 1)) := ⟨_, rfl⟩
              rw [← hL] at HBits hmo
              by_cases hbb : 65536 < L
              · obtain ⟨f1, f2⟩ := fit_out (N := T) (by rw [HT.out]; omega)
                have q1 := HFN.out
                have q2 := HFE.out
                rw [f1] at q1
                rw [f2] at q2
                subst q1 q2
                clear hL hmo HFN HFE HMO HMU HBR HPW f1 f2
                go_wp2_with fail
                refine (HBits.out ()).mono ?_
                rintro e w4 ⟨rfl, hw4⟩
                subst hw4
                go_wp2
                go_ret2
                exact ⟨_, rfl, rn_nil _, HF3.out⟩
              · have HB3 : Hid (bl (M ^ (i + 1)) ≤ 65536) := by rw [← hL]; exact Nat.le_of_not_lt hbb
                clear hL hmo
                go_wp2_with fail
                refine (HBits.out ()).mono ?_
                rintro e w4 ⟨rfl, hw4⟩
                subst hw4
                clear HBits
                go_wp2
                go_roundw
                case rel => exact ⟨i + 1, by omega, by go_num, HR3, HB3, HF3⟩
                case measure => simp [intOf]; omega
            · obtain hin : i = n := by omega
              have hR := HR.out
              have hB := HBi.out
              rw [hin, ← HT.out] at hR hB
              obtain ⟨f1, f2⟩ := fit_in hB
              have q1 := HFN.out
              have q2 := HFE.out
              rw [f1] at q1
              rw [f2] at q2
              subst q2
              rw [← q1] at hR
              have HR2 : Hid (Rn wr (.slice xa xn xc) FN) := hR
              clear hR hB HR HBi HFN HFE HMO HMU HBR HPW f1 f2 q1 HT hin
              go_wp2
              go_ret2
              exact ⟨_, rfl, HR2.out, HF.out⟩
end Go.Proofs.YtdmjfmipalifpaaGreatDoor
