/-
  Mul and Power of the program's numbers, whatever they are asked.
-/
import Derived.Test.YtdmjfmipalifpaaGreatDoorCt
import Derived.Test.YtdmjfmipalifpaaGreatDoorWv
namespace Go.Proofs.YtdmjfmipalifpaaGreatDoor
open Go.RowKit

set_option maxHeartbeats 1000000 in
set_option maxRecDepth 100000 in
theorem natMul_any (xv yv : Value) (M N : Nat) (w : World) (hx : Nm w xv M) (hy : Nm w yv N) (hb : bl M + bl N ≤ 1099511627776) :
    Calls Tryz.prog 34 #[.agg #[xv], .agg #[yv]] w fun e w' => ∃ v', e = .returned (.tuple #[.agg #[v'], .int .i64 (fitE (M * N))]) ∧ (Nm w' v' (fitN (M * N)) ∧ Fresh w w') := by
  have hp := fun W (hF : Fresh w W) => times_any _ _ M N W (hx.fresh hF) (hy.fresh hF) hb
  obtain ⟨a, n, c, rfl⟩ := hx.shape
  obtain ⟨a2, n2, c2, rfl⟩ := hy.shape
  obtain ⟨FE, hFE⟩ : ∃ x, x = fitE (M * N) := ⟨_, rfl⟩
  rw [← hFE]
  have HFE := show Hid _ from hFE
  have hF0 : Fresh w (((w.alloc (.cells #[.slice a n c] 26)).alloc (.cells #[.slice a2 n2 c2] 26)).alloc (.cells #[.slice none 0 0] 26)) := (((Kept.refl _ _).alloc _).alloc _).alloc _
  have hB0 : (((w.alloc (.cells #[.slice a n c] 26)).alloc (.cells #[.slice a2 n2 c2] 26)).alloc (.cells #[.slice none 0 0] 26)).heap[w.heap.size + 1 + 1]? = some (.cells #[.slice none 0 0] 26 (0, 0)) := by
    have := heap_alloc_new ((w.alloc (.cells #[.slice a n c] 26)).alloc (.cells #[.slice a2 n2 c2] 26)) (.cells #[.slice none 0 0] 26)
    simpa using this
  have HF0 := show Hid _ from hF0
  have HB0 := show Hid _ from hB0
  clear hx hy hFE hF0 hB0
  go_enter Tryz.func34, Tryz.ntmps34
  go_wp2_with fail
  refine (hp _ HF0.out).mono ?_
  rintro e w1 ⟨v1, rfl, hN1, hF1⟩
  have hnum := number_any _ _ _ hN1
  rw [← HFE.out] at hnum
  obtain ⟨a3, n3, c3, rfl⟩ := hN1.shape
  have HB1 := show Hid _ from hF1.at HB0.out (fun e => e)
  have HF1 : Hid (Fresh w w1) := HF0.out.trans hF1 (fun _ _ e => e)
  clear hp hN1 hF1 HB0 HF0
  go_wp2_with fail
  refine hnum.mono ?_
  rintro e w2 ⟨v2, rfl, hN2, hF2⟩
  obtain ⟨a4, n4, c4, rfl⟩ := hN2.shape
  have hb2 := hF2.at HB1.out (fun e => e)
  have hc2 := Lib.cell_of_heap hb2 0
  rw [show (#[Value.slice none 0 0] : Array Value)[0]? = some (.slice none 0 0) from rfl] at hc2
  have hf2 := Lib.frozen_of_heap hb2 0
  have hset := heap_setCell_same w2 (w.heap.size + 1 + 1) 0 _ _ (.slice a4 n4 c4) hb2
  have r0 := Lib.cell_of_heap hset 0
  rw [show ((#[Value.slice none 0 0] : Array Value).setIfInBounds 0 (.slice a4 n4 c4))[0]? = some (.slice a4 n4 c4) from rfl] at r0
  have R1 : Hid (Nm (w2.setCell ⟨w.heap.size + 1 + 1, 0, none⟩ (.slice a4 n4 c4)) (.slice a4 n4 c4) (fitN (M * N))) := nm_set hN2 hb2 (by decide) _ _
  have R2 : Hid (Fresh w (w2.setCell ⟨w.heap.size + 1 + 1, 0, none⟩ (.slice a4 n4 c4))) := (HF1.out.trans hF2 (fun _ _ e => e)).setCell (p := ⟨w.heap.size + 1 + 1, 0, none⟩) (fun e => by simp at e; omega) _
  clear hset hb2 hN2 hF2 hnum HB1 HF1
  go_wp2
  exact bodyPost_ret (v := .tuple #[.agg #[.slice a4 n4 c4], .int .i64 FE]) (by simp [results, Tryz.results34, go_sem, r0]) rfl ⟨_, rfl, R1.out, R2.out⟩

/-- What Power answers. -/
def pwN (M : Nat) (k : Int) : Nat := if k < 0 then 0 else if bl M ≤ 1 then M ^ min k.toNat 1 else if 65536 ≤ k.toNat ∨ 65536 ≤ (bl M - 1) * k.toNat then 0 else fitN (M ^ k.toNat)
def pwE (M : Nat) (k : Int) : Int := if k < 0 then 1 else if bl M ≤ 1 then 0 else if 65536 ≤ k.toNat ∨ 65536 ≤ (bl M - 1) * k.toNat then 41 else fitE (M ^ k.toNat)
theorem pw_neg {M : Nat} {k : Int} (h : k < 0) : pwN M k = 0 ∧ pwE M k = 1 := ⟨if_pos h, if_pos h⟩
theorem pw_one {M n : Nat} (h : bl M ≤ 1) : pwN M (n : Int) = M ^ min n 1 ∧ pwE M (n : Int) = 0 := by
  unfold pwN pwE
  have h0 : ¬ (n : Int) < 0 := by omega
  rw [if_neg h0, if_neg h0, if_pos h, if_pos h]
  exact ⟨rfl, rfl⟩
theorem pw_big {M n : Nat} (h : ¬ bl M ≤ 1) (hn : 65536 ≤ n ∨ 65536 ≤ (bl M - 1) * n) : pwN M (n : Int) = 0 ∧ pwE M (n : Int) = 41 := by
  unfold pwN pwE
  have h0 : ¬ (n : Int) < 0 := by omega
  rw [if_neg h0, if_neg h0, if_neg h, if_neg h, if_pos (by simpa using hn), if_pos (by simpa using hn)]
  exact ⟨rfl, rfl⟩
theorem pw_fit {M n : Nat} (h : ¬ bl M ≤ 1) (hn : ¬ (65536 ≤ n ∨ 65536 ≤ (bl M - 1) * n)) : pwN M (n : Int) = fitN (M ^ n) ∧ pwE M (n : Int) = fitE (M ^ n) := by
  unfold pwN pwE
  have h0 : ¬ (n : Int) < 0 := by omega
  rw [if_neg h0, if_neg h0, if_neg h, if_neg h, if_neg (by simpa using hn), if_neg (by simpa using hn)]
  exact ⟨rfl, rfl⟩

set_option maxHeartbeats 1000000 in
set_option maxRecDepth 100000 in
theorem natPower_any (v : Value) (M : Nat) (k : Int) (w : World) (h : Nm w v M) (hM2 : bl M ≤ 65536) (hk0 : -9223372036854775808 ≤ k) (hk1 : k ≤ 9223372036854775807) :
    Calls Tryz.prog 32 #[.agg #[v], .int .i64 k] w fun e w' => ∃ v', e = .returned (.tuple #[.agg #[v'], .int .i64 (pwE M k)]) ∧ (Nm w' v' (pwN M k) ∧ Fresh w w') := by
  have HBT : Hid (Unit → _) := fun (_ : Unit) => fun W (hF : Fresh w W) => natBits_any v M W (h.fresh hF)
  by_cases hneg : k < 0
  · obtain ⟨e1, e2⟩ := pw_neg (M := M) hneg
    rw [e1, e2]
    obtain ⟨a, n, c, rfl⟩ := h.shape
    have hB := Bx.made w (.slice a n c) (.slice none 0 0)
    have hc1 := hB.c2
    have hf1 := hB.f2
    have R2 := show Hid _ from hB.fr
    clear h HBT e1 e2 hB
    go_enter Tryz.func32, Tryz.ntmps32
    go_wp2
    exact bodyPost_ret (v := .tuple #[.agg #[.slice none 0 0], .int .i64 1]) (by simp [results, Tryz.results32, go_sem, hc1]) rfl ⟨_, rfl, nm_zero _, R2.out⟩
  · obtain ⟨n, rfl⟩ : ∃ n : Nat, k = (n : Int) := ⟨k.toNat, by omega⟩
    by_cases hone : bl M ≤ 1
    · obtain ⟨e1, e2⟩ := pw_one (n := n) hone
      rw [e1, e2]
      obtain ⟨q, hq⟩ : ∃ q, q = min n 1 := ⟨_, rfl⟩
      rw [← hq]
      have hqI : min (n : Int) 1 = (q : Int) := by omega
      have hq1 : q ≤ 1 := by omega
      have HPO : Hid (Unit → _) := fun (_ : Unit) => fun W (hF : Fresh w W) => power_any v M q W (h.fresh hF) (by omega) (by
        have : q * bl M ≤ 1 * 1 := Nat.mul_le_mul hq1 hone
        omega)
      have hfz := fit_in (N := M ^ q) (by
        have h1 := bl_pow M q
        have : q * bl M ≤ 1 * 1 := Nat.mul_le_mul hq1 hone
        omega)
      obtain ⟨a, m, c, rfl⟩ := h.shape
      have HB := show Hid _ from Bx.made w (.slice a m c) (.slice none 0 0)
      clear h e1 e2 hq
      generalize bl M = K at *
      have d1 : decide ((K : Int) ≤ 1) = true := by rw [decide_eq_true_eq]; omega
      go_enter Tryz.func32, Tryz.ntmps32
      go_wp2_with fail
      refine (HBT.out () _ HB.out.fr).mono ?_
      rintro e w1 ⟨rfl, hF1⟩
      have hB1 := Bx.next HB.out hF1
      have hc1 := hB1.c1
      have HB1 := show Hid _ from hB1
      clear HB hF1 hB1 HBT
      go_wp2_with fail
      refine (HPO.out () _ HB1.out.fr).mono ?_
      rintro e w3 ⟨v3, rfl, hN3, hF3⟩
      obtain ⟨a3, k3, c3, rfl⟩ := hN3.shape
      have HB3 := show Hid _ from Bx.next HB1.out hF3
      have hnum := number_any _ _ _ hN3
      rw [hfz.1, hfz.2] at hnum
      clear HB1 hF3 hN3 hc1 hfz HPO
      go_wp2_with fail
      refine hnum.mono ?_
      rintro e w4 ⟨v4, rfl, hN4, hF4⟩
      obtain ⟨a4, k4, c4, rfl⟩ := hN4.shape
      have hB4 := Bx.next HB3.out hF4
      have hc4 := hB4.c2
      have hf4 := hB4.f2
      obtain ⟨r0, r1, r2⟩ := hB4.store _ hN4
      have R1 := show Hid _ from r1
      have R2 := show Hid _ from r2
      clear HB3 hF4 hN4 hB4 r1 r2 hnum
      go_wp2
      exact bodyPost_ret (v := .tuple #[.agg #[.slice a4 k4 c4], .int .i64 0]) (by simp [results, Tryz.results32, go_sem, r0]) rfl ⟨_, rfl, R1.out, R2.out⟩
    · by_cases hbig : 65536 ≤ n ∨ 65536 ≤ (bl M - 1) * n
      · obtain ⟨e1, e2⟩ := pw_big hone hbig
        rw [e1, e2]
        obtain ⟨a, m, c, rfl⟩ := h.shape
        have HB := show Hid _ from Bx.made w (.slice a m c) (.slice none 0 0)
        obtain ⟨P, hP⟩ : ∃ P, P = (bl M - 1) * n := ⟨_, rfl⟩
        rw [← hP] at hbig
        have hPI : ((bl M : Int) - 1) * (n : Int) = (P : Int) := by
          rw [hP, show (bl M : Int) - 1 = ((bl M - 1 : Nat) : Int) by omega]; simp
        have hPl : n < 65536 → P ≤ 65535 * 65535 := fun hn => by rw [hP]; exact Nat.mul_le_mul (by omega) (by omega)
        clear h e1 e2 hP
        generalize bl M = K at *
        have d1 : decide ((K : Int) ≤ 1) = false := by rw [decide_eq_false_iff_not]; omega
        by_cases hn : 65536 ≤ n
        · have d2 : decide ((65536 : Int) ≤ (n : Int)) = true := by rw [decide_eq_true_eq]; omega
          clear hPI hPl hbig
          go_enter Tryz.func32, Tryz.ntmps32
          go_wp2_with fail
          refine (HBT.out () _ HB.out.fr).mono ?_
          rintro e w1 ⟨rfl, hF1⟩
          have hB1 := Bx.next HB.out hF1
          have hc1 := hB1.c2
          have hf1 := hB1.f2
          obtain ⟨r0, r1, r2⟩ := hB1.store (.slice none 0 0) (nm_zero _)
          have R2 := show Hid _ from r2
          clear HB hF1 hB1 HBT r1 r2
          go_wp2
          exact bodyPost_ret (v := .tuple #[.agg #[.slice none 0 0], .int .i64 41]) (by simp [results, Tryz.results32, go_sem, r0]) rfl ⟨_, rfl, nm_zero _, R2.out⟩
        · have d2 : decide ((65536 : Int) ≤ (n : Int)) = false := by rw [decide_eq_false_iff_not]; omega
          have d3 : decide ((65536 : Int) ≤ (P : Int)) = true := by rw [decide_eq_true_eq]; omega
          have hPl' := hPl (by omega)
          clear hPl hbig
          go_enter Tryz.func32, Tryz.ntmps32
          go_wp2_with fail
          refine (HBT.out () _ HB.out.fr).mono ?_
          rintro e w1 ⟨rfl, hF1⟩
          have hB1 := Bx.next HB.out hF1
          have hc1 := hB1.c1
          have HB1 := show Hid _ from hB1
          clear HB hF1 hB1
          go_wp2_with fail
          refine (HBT.out () _ HB1.out.fr).mono ?_
          rintro e w2 ⟨rfl, hF2⟩
          have hB2 := Bx.next HB1.out hF2
          have hc2 := hB2.c2
          have hf2 := hB2.f2
          obtain ⟨r0, r1, r2⟩ := hB2.store (.slice none 0 0) (nm_zero _)
          have R2 := show Hid _ from r2
          clear HB1 hF2 hB2 HBT r1 r2 hc1
          go_wp2
          exact bodyPost_ret (v := .tuple #[.agg #[.slice none 0 0], .int .i64 41]) (by simp [results, Tryz.results32, go_sem, r0]) rfl ⟨_, rfl, nm_zero _, R2.out⟩
      · obtain ⟨e1, e2⟩ := pw_fit hone hbig
        rw [e1, e2]
        exact natPower_fits v M n w h (by omega) hM2 (by omega) (by omega)
end Go.Proofs.YtdmjfmipalifpaaGreatDoor
