/-
  Choose, the program's and the document's.
-/
import Derived.Test.YtodomdgaoplhpabDoorCt
import Derived.Test.YtodomdgaoplhpabDoorChN
import Derived.Test.YtodomdgaoplhpabDoorRfd
namespace Go.Proofs.YtodomdgaoplhpabDoor
open Go.RowKit

theorem cV_out {n k : Int} (h : n < 0 ∨ 4096 < n ∨ k < 0) : cV n k = 0 := if_pos h
theorem cV_over {n k : Int} (h : n < k) : cV n k = 0 := by
  unfold cV
  split
  · rfl
  · exact ch_over _ _ (by omega)

set_option maxHeartbeats 2000000 in
set_option maxRecDepth 100000 in
theorem choose_any (n k : Int) (w : World) (hn : -9223372036854775808 ≤ n ∧ n ≤ 9223372036854775807) (hk : -9223372036854775808 ≤ k ∧ k ≤ 9223372036854775807) :
    Calls Tryd.prog 5 #[.int .i64 n, .int .i64 k] w fun e w' => ∃ v', e = .returned (.tuple #[.agg #[v'], .int .i64 (cE n)]) ∧ (Nm w' v' (cV n k) ∧ Fresh w w') := by
  have HA := show Hid _ from Ax.made w (.slice none 0 0)
  obtain ⟨n0, n1⟩ := hn
  obtain ⟨k0, k1⟩ := hk
  by_cases hbad : n < 0 ∨ 4096 < n
  · rw [show cE n = 1 from if_pos hbad, cV_out (k := k) (hbad.imp id .inl)]
    have hc0 := HA.out.c
    have HF0 := show Hid _ from HA.out.fr
    clear HA
    by_cases h1 : n < 0
    · go_enter Tryd.func5, Tryd.ntmps5
      go_wp2
      exact bodyPost_ret (v := .tuple #[.agg #[.slice none 0 0], .int .i64 1]) (by simp [results, Tryd.results5, go_sem, hc0]) rfl ⟨_, rfl, nm_zero _, HF0.out⟩
    · have h2 : 4096 < n := by omega
      have d1 : decide (n < 0) = false := by rw [decide_eq_false_iff_not]; omega
      have d2 : decide ((4096 : Int) < n) = true := by rw [decide_eq_true_iff]; omega
      clear hbad
      go_enter Tryd.func5, Tryd.ntmps5
      go_wp2
      exact bodyPost_ret (v := .tuple #[.agg #[.slice none 0 0], .int .i64 1]) (by simp [results, Tryd.results5, go_sem, hc0]) rfl ⟨_, rfl, nm_zero _, HF0.out⟩
  · rw [show cE n = 0 from if_neg hbad]
    have d1 : decide (n < 0) = false := by rw [decide_eq_false_iff_not]; omega
    have d2 : decide ((4096 : Int) < n) = false := by rw [decide_eq_false_iff_not]; omega
    by_cases hk0 : k < 0 ∨ n < k
    · have hcv : cV n k = 0 := by
        rcases hk0 with h | h
        · exact cV_out (.inr (.inr h))
        · exact cV_over h
      rw [hcv]
      have hc0 := HA.out.c
      have HF0 := show Hid _ from HA.out.fr
      clear HA hcv
      by_cases h1 : k < 0
      · have d3 : decide (k < 0) = true := by rw [decide_eq_true_iff]; omega
        go_enter Tryd.func5, Tryd.ntmps5
        go_wp2
        exact bodyPost_ret (v := .tuple #[.agg #[.slice none 0 0], .int .i64 0]) (by simp [results, Tryd.results5, go_sem, hc0]) rfl ⟨_, rfl, nm_zero _, HF0.out⟩
      · have d3 : decide (k < 0) = false := by rw [decide_eq_false_iff_not]; omega
        have d4 : decide (n < k) = true := by rw [decide_eq_true_iff]; omega
        go_enter Tryd.func5, Tryd.ntmps5
        go_wp2
        exact bodyPost_ret (v := .tuple #[.agg #[.slice none 0 0], .int .i64 0]) (by simp [results, Tryd.results5, go_sem, hc0]) rfl ⟨_, rfl, nm_zero _, HF0.out⟩
    · obtain ⟨a, rfl⟩ : ∃ a : Nat, n = a := ⟨n.toNat, by omega⟩
      obtain ⟨b, rfl⟩ : ∃ b : Nat, k = b := ⟨k.toNat, by omega⟩
      have hcv : cV (a : Int) (b : Int) = ch a b := by unfold cV; rw [if_neg (by omega), Int.toNat_natCast, Int.toNat_natCast]
      have hab : b ≤ a := by omega
      have ha : a ≤ 4096 := by omega
      rw [hcv]
      obtain ⟨m, hm1, hm2, hm3⟩ : ∃ m : Nat, min (b : Int) ((a : Int) - (b : Int)) = (m : Int) ∧ m ≤ a ∧ ch a m = ch a b := by
        rcases Nat.lt_or_ge (a - b) b with h | h
        · exact ⟨a - b, by omega, by omega, ch_sym a b hab⟩
        · exact ⟨b, by omega, hab, rfl⟩
      have hmI : min (b : Int) ((a : Int) - (b : Int)) = (m : Int) := hm1
      rw [← hm3]
      have d3 : decide ((b : Int) < 0) = false := by rw [decide_eq_false_iff_not]; omega
      have d4 : decide ((a : Int) < (b : Int)) = false := by rw [decide_eq_false_iff_not]; omega
      have hw1 := fun W => word_any 1 W (by omega)
      obtain ⟨f1, f2⟩ := fit_in (N := ch a m) (Nat.le_trans (ch_bl a m) (by omega))
      have F1 := show Hid _ from f1
      have F2 := show Hid _ from f2
      clear hbad hk0 hcv hm3 hm1 f1 f2
      go_enter Tryd.func5, Tryd.ntmps5
      go_wp2_with fail
      refine (hw1 _).mono ?_
      rintro e w2 ⟨v2, rfl, hN2, hF2⟩
      obtain ⟨a2, k2, c2, rfl⟩ := hN2.shape
      have HA2 := show Hid _ from Ax.next HA.out hF2
      have HN2 : Hid (Nm w2 (.slice a2 k2 c2) (ch a 0)) := by rw [ch_zero]; exact hN2
      clear HA hN2 hF2 hw1
      go_wp2_with fail
      go_loopw [6, 29] (fun pv iv wr => ∃ j : Nat, j ≤ m ∧ iv = .int .i64 (j : Int) ∧ Hid (Nm wr pv (ch a j)) ∧ Hid (Ax w (.slice none 0 0) wr)) (fun _ iv _ => m - (intOf iv).toNat)
      case atStart => exact ⟨0, by omega, rfl, HN2, HA2⟩
      case round =>
        clear HA2 HN2
        obtain ⟨j, hj, rfl, HN, HA⟩ := hrel
        obtain ⟨pa, pn, pc, rfl⟩ := Nm.shape HN.out
        by_cases hlt : j < m
        · have htw := timesWord_any _ (ch a j) (a - j) wr HN.out (by omega) (by have := ch_bl a j; omega)
          have hnx := ch_next a j (by omega)
          have hpos := ch_pos a j (by omega)
          have hbl2 : bl (ch a j * (a - j)) ≤ 10000 := by
            have h1 := bl_mul (ch a j) (a - j)
            have h2 := ch_bl a j
            have h3 : bl (a - j) ≤ 13 := bl_le (by omega)
            omega
          have hne : ch a j * (a - j) ≠ 0 := by
            have := Nat.mul_pos hpos (show 0 < a - j by omega)
            omega
          have e1 : ((a - j : Nat) : Int) = (a : Int) - (j : Int) := by omega
          rw [e1] at htw
          have hq : ch a j * (a - j) / (j + 1) = ch a (j + 1) := by rw [hnx, Nat.mul_div_cancel_left _ (by omega)]
          have HQ := show Hid _ from hq
          have HNE := show Hid _ from hne
          have HBL := show Hid _ from hbl2
          clear hnx hpos hq hne hbl2
          go_wp2_with fail
          refine htw.mono ?_
          rintro e w3 ⟨v3, rfl, hN3, hF3⟩
          have how := overWord_any _ _ (j + 1) w3 hN3 (by omega) (by omega) (by have := HBL.out; omega) HNE.out
          rw [HQ.out] at how
          obtain ⟨a3, k3, c3, rfl⟩ := hN3.shape
          have HA3 := show Hid _ from Ax.next HA.out hF3
          have e2 : ((j + 1 : Nat) : Int) = (j : Int) + 1 := by omega
          rw [e2] at how
          generalize ch a j * (a - j) % (j + 1) = RR at *
          clear htw hN3 hF3 HA HN
          go_wp2_with fail
          refine how.mono ?_
          rintro e w4 ⟨v4, rfl, hN4, hF4⟩
          obtain ⟨a4, k4, c4, rfl⟩ := hN4.shape
          have HA4 := show Hid _ from Ax.next HA3.out hF4
          have HN4 := show Hid _ from hN4
          clear how hN4 hF4 HA3
          go_wp2
          go_roundw
          case rel => exact ⟨j + 1, by omega, by go_num, HN4, HA4⟩
          case measure => simp [intOf]; omega
        · obtain rfl : j = m := by omega
          have hnum := number_any _ _ _ HN.out
          rw [F1.out, F2.out] at hnum
          clear HN
          go_wp2_with fail
          refine hnum.mono ?_
          rintro e w5 ⟨v5, rfl, hN5, hF5⟩
          obtain ⟨a5, k5, c5, rfl⟩ := hN5.shape
          have hA5 := Ax.next HA.out hF5
          have hc5 := hA5.c
          have hf5 := hA5.f
          obtain ⟨r0, r1, r2⟩ := hA5.store _ hN5
          have R1 := show Hid _ from r1
          have R2 := show Hid _ from r2
          clear r1 r2 hA5 HA hnum hN5 hF5
          go_wp2
          exact bodyPost_ret (v := .tuple #[.agg #[.slice a5 k5 c5], .int .i64 0]) (by simp [results, Tryd.results5, go_sem, r0]) rfl ⟨_, rfl, R1.out, R2.out⟩

theorem rn_one' (w : World) : Rn (w.alloc (.cells #[.int .i64 1] 3)) (.slice (some ⟨w.heap.size, 0, none⟩) 1 1) 1 := by
  have hO : Ow 3 .i64 (w.alloc (.cells #[.int .i64 1] 3)) w.heap.size [] [1] [] := heap_alloc_new w _
  exact ⟨[1], Dw.mono (hO.dw (B := 65536) (cap := 1) (Dg.one (by omega)) (by simp) (by simp) (by omega)) (fun _ _ _ => trivial), by simp [Can], by simp [val]⟩

set_option maxHeartbeats 2000000 in
set_option maxRecDepth 100000 in
theorem refChoose_any (n k : Int) (w : World) (hn : -9223372036854775808 ≤ n ∧ n ≤ 9223372036854775807) (hk : -9223372036854775808 ≤ k ∧ k ≤ 9223372036854775807) :
    Calls Tryd.prog 6 #[.int .i64 n, .int .i64 k] w fun e w' => ∃ v', e = .returned (.tuple #[v', .int .i64 (cE n)]) ∧ (Rn w' v' (cV n k) ∧ Fresh w w') := by
  obtain ⟨n0, n1⟩ := hn
  obtain ⟨k0, k1⟩ := hk
  by_cases hbad : n < 0 ∨ 4096 < n
  · rw [show cE n = 1 from if_pos hbad, cV_out (k := k) (hbad.imp id .inl)]
    by_cases h1 : n < 0
    · go_enter Tryd.func6, Tryd.ntmps6
      go_wp2
      go_ret2
      exact ⟨_, rfl, rn_nil _, Kept.refl _ _⟩
    · have h2 : 4096 < n := by omega
      have d1 : decide (n < 0) = false := by rw [decide_eq_false_iff_not]; omega
      have d2 : decide ((4096 : Int) < n) = true := by rw [decide_eq_true_iff]; omega
      clear hbad
      go_enter Tryd.func6, Tryd.ntmps6
      go_wp2
      go_ret2
      exact ⟨_, rfl, rn_nil _, Kept.refl _ _⟩
  · rw [show cE n = 0 from if_neg hbad]
    have d1 : decide (n < 0) = false := by rw [decide_eq_false_iff_not]; omega
    have d2 : decide ((4096 : Int) < n) = false := by rw [decide_eq_false_iff_not]; omega
    by_cases hk0 : k < 0 ∨ n < k
    · have hcv : cV n k = 0 := by
        rcases hk0 with h | h
        · exact cV_out (.inr (.inr h))
        · exact cV_over h
      rw [hcv]
      clear hcv
      by_cases h1 : k < 0
      · have d3 : decide (k < 0) = true := by rw [decide_eq_true_iff]; omega
        go_enter Tryd.func6, Tryd.ntmps6
        go_wp2
        go_ret2
        exact ⟨_, rfl, rn_nil _, Kept.refl _ _⟩
      · have d3 : decide (k < 0) = false := by rw [decide_eq_false_iff_not]; omega
        have d4 : decide (n < k) = true := by rw [decide_eq_true_iff]; omega
        go_enter Tryd.func6, Tryd.ntmps6
        go_wp2
        go_ret2
        exact ⟨_, rfl, rn_nil _, Kept.refl _ _⟩
    · obtain ⟨a, rfl⟩ : ∃ a : Nat, n = a := ⟨n.toNat, by omega⟩
      obtain ⟨b, rfl⟩ : ∃ b : Nat, k = b := ⟨k.toNat, by omega⟩
      have hcv : cV (a : Int) (b : Int) = ch a b := by unfold cV; rw [if_neg (by omega), Int.toNat_natCast, Int.toNat_natCast]
      have hab : b ≤ a := by omega
      have ha : a ≤ 4096 := by omega
      rw [hcv]
      obtain ⟨c, hc⟩ : ∃ c, a = c + b := ⟨a - b, by omega⟩
      have e0 : (a : Int) - (b : Int) = (c : Int) := by omega
      have hcb : c + b ≤ 4096 := by omega
      have HC : Hid (a = c + b) := hc
      have d3 : decide ((b : Int) < 0) = false := by rw [decide_eq_false_iff_not]; omega
      have d4 : decide ((a : Int) < (b : Int)) = false := by rw [decide_eq_false_iff_not]; omega
      have d5 : decide (a < b) = false := by rw [decide_eq_false_iff_not]; omega
      have HO : Hid (Rn (w.alloc (.cells #[.int .i64 1] 3)) (.slice (some ⟨w.heap.size, 0, none⟩) 1 1) (ch (c + 0) 0)) := by rw [ch_zero]; exact rn_one' w
      have HF0 : Hid (Fresh w (w.alloc (.cells #[.int .i64 1] 3))) := (Kept.refl _ _).alloc _
      clear hbad hk0 hcv hc
      go_enter Tryd.func6, Tryd.ntmps6
      go_wp2_with fail
      go_loopw [6, 7] (fun pv iv wr => ∃ j : Nat, j ≤ b ∧ iv = .int .i64 ((j : Int) + 1) ∧ Hid (Rn wr pv (ch (c + j) j)) ∧ Fresh w wr) (fun _ iv _ => b + 1 - (intOf iv).toNat)
      case atStart => exact ⟨0, by omega, rfl, HO, HF0.out⟩
      case round =>
        clear HO HF0
        obtain ⟨j, hj, rfl, HN, hF⟩ := hrel
        obtain ⟨pa, pn, pc, rfl⟩ := Rn.shape HN.out
        by_cases hlt : j < b
        · have hof := refOf_any (c + j + 1) wr (by omega)
          have hup := ch_up (c + j) j
          have hbl : bl (ch (c + j) j) ≤ 4097 := Nat.le_trans (ch_bl _ _) (by omega)
          have hq : ch (c + j) j * (c + j + 1) / (j + 1) = ch (c + (j + 1)) (j + 1) := by
            rw [Nat.mul_comm, ← hup, Nat.mul_div_cancel_left _ (by omega)]
            rfl
          have hbl3 : bl (c + j + 1) ≤ 13 := bl_le (by omega)
          have HQ := show Hid _ from hq
          have HBL := show Hid _ from (Nat.le_trans (bl_mul (ch (c + j) j) (c + j + 1)) (show bl (ch (c + j) j) + bl (c + j + 1) ≤ 10000 by omega))
          have e1 : ((c + j + 1 : Nat) : Int) = (c : Int) + ((j : Int) + 1) := by omega
          rw [e1] at hof
          have hbb : bl (ch (c + j) j) + bl (c + j + 1) ≤ 1099511627776 := by omega
          clear hup hq e1
          go_wp2_with fail
          refine hof.mono ?_
          rintro e w3 ⟨v3, rfl, hN3, hF3⟩
          have hmu := refMul_any _ _ _ _ w3 (Rn.fresh HN.out hF3) hN3 hbb
          obtain ⟨a3, k3, c3, rfl⟩ := hN3.shape
          have hF3' : Fresh w w3 := hF.trans hF3 (fun _ _ e => e)
          clear hof hN3 hF3 HN
          go_wp2_with fail
          refine hmu.mono ?_
          rintro e w4 ⟨v4, rfl, hN4, hF4⟩
          have hF4' : Fresh w w4 := hF3'.trans hF4 (fun _ _ e => e)
          obtain ⟨L4, g1, g2, g3⟩ := hN4
          have hl4 := rn_len g1.dg g2
          rw [g3] at hl4
          have hB := HBL.out
          have hsm := refSmall_any _ L4 (j + 1) w4 g1 (by omega) (by omega) (by omega)
          rw [g3, HQ.out] at hsm
          obtain ⟨a4, c4, rfl⟩ := g1.shape
          have e2 : ((j + 1 : Nat) : Int) = (j : Int) + 1 := by omega
          rw [e2] at hsm
          generalize ch (c + j) j * (c + j + 1) % (j + 1) = RR at *
          generalize L4.length = k4 at *
          clear hmu hF4 hF3' g1 g2 g3
          go_wp2_with fail
          refine hsm.mono ?_
          rintro e w5 ⟨v5, rfl, hN5, hF5⟩
          obtain ⟨a5, k5, c5, rfl⟩ := hN5.shape
          have HN5 := show Hid _ from hN5
          have HF5 : Hid (Fresh w w5) := hF4'.trans hF5 (fun _ _ e => e)
          clear hsm hN5 hF5 hF4'
          go_wp2
          go_roundw
          case rel => exact ⟨j + 1, by omega, by go_num, HN5, HF5.out⟩
          case measure => simp [intOf]; omega
        · obtain rfl : j = b := by omega
          have HF := show Hid _ from hF
          clear hF
          go_wp2
          go_ret2
          exact ⟨_, rfl, by rw [HC.out]; exact HN.out, HF.out⟩
end Go.Proofs.YtodomdgaoplhpabDoor
