/-
  Numbers times 2^n.
-/
import Derived.Test.YtdmjfmipalifpaaGreatDoorTa
import Derived.Deep.RegionHeld3
namespace Go.Proofs.YtdmjfmipalifpaaGreatDoor
open Go.RowKit

theorem up_val {B m x o z e : Nat} (h : z + B ^ e * o = m * x) (hm : m * x < B ^ e) : z = m * x := by
  rcases Nat.eq_zero_or_pos o with ho | ho
  · subst ho; omega
  · have : B ^ e * 1 ≤ B ^ e * o := Nat.mul_le_mul_left _ ho
    omega

set_option maxHeartbeats 2000000 in
set_option maxRecDepth 100000 in
theorem up_any (xv : Value) (M n : Nat) (w : World) (hx : Nm w xv M) (hb : bl M ≤ 1099511627776) (hn : n ≤ 65536) :
    Calls Tryz.prog 52 #[xv, .int .i64 n] w fun e w' => ∃ v', e = .returned v' ∧ (Nm w' v' (M * 2 ^ n) ∧ Fresh w w') := by
  obtain ⟨i0, hi, hz0, hz1, hz2⟩ := info_parts Tryz.infoU
  obtain ⟨X, hX, hcX, hvX, _⟩ := hx
  have hlX := nm_len hX.dg hcX
  rw [hvX] at hlX
  have hXl : X.length ≤ 17179869185 := by omega
  have hdX := hX.dg
  obtain ⟨xa, xc, rfl⟩ := hX.shape
  have hX' : Wd (fun k => k < w.heap.size) w (.slice xa X.length xc) X := Dw.mono hX (fun b hb _ => hb)
  have HX := show Hid _ from hX'
  obtain ⟨Q, hQ⟩ : ∃ Q, Q = n / 64 := ⟨_, rfl⟩
  obtain ⟨R, hR⟩ : ∃ R, R = n % 64 := ⟨_, rfl⟩
  have q1 : (n : Int) / 64 = (Q : Int) := by omega
  have q2 : (n : Int).tdiv 64 = (Q : Int) := by rw [Int.tdiv_eq_ediv_of_nonneg (by omega)]; exact q1
  have q3 : (n : Int) % 64 = (R : Int) := by omega
  have q4 : (n : Int).tmod 64 = (R : Int) := by rw [Int.tmod_eq_emod_of_nonneg (by omega)]; exact q3
  have hRl : R < 64 := by omega
  have hQl : Q ≤ 1024 := by omega
  obtain ⟨E, hE⟩ : ∃ E : Nat, E = 2 ^ R := ⟨_, rfl⟩
  have hEl : E < 18446744073709551616 := by
    rw [hE]
    exact Nat.lt_of_lt_of_le (Nat.pow_lt_pow_right (by decide) hRl) (by decide)
  have hEI : (2 : Int) ^ R = (E : Int) := by rw [hE]; simp
  have HEND : Hid (∀ (Z : List Nat) (o : Nat), val 18446744073709551616 Z + 18446744073709551616 ^ (X.length + 1) * o = E * val 18446744073709551616 X → 18446744073709551616 ^ Q * val 18446744073709551616 Z = M * 2 ^ n) := fun Z o h => by
    have h1 := val_lt (B := 18446744073709551616) (by decide) hdX
    have h2 : E * val 18446744073709551616 X < 18446744073709551616 ^ (X.length + 1) := by
      rw [Nat.pow_succ, Nat.mul_comm]
      exact Nat.mul_lt_mul_of_lt_of_le h1 (Nat.le_of_lt hEl) (by decide)
    rw [up_val h h2, hvX, hE, show (18446744073709551616 : Nat) = 2 ^ 64 by decide, ← Nat.pow_mul, ← Nat.mul_assoc, ← Nat.pow_add, show 64 * Q + R = n by omega, Nat.mul_comm]
  clear hX hX' hlX hcX hvX hb hQ hR hE hdX
  go_enter Tryz.func52, Tryz.ntmps52
  go_wp2_with (at_make; refine wpList_make_full _ rfl _ _ _ rfl w.heap.size 71 i0 _ 1 Tryz.underlying24 hi hz0 hz1 _ _ _ _ (Q + X.length + 1) rfl rfl rfl rfl (by rw [hz2]; omega) (by unfold maxLen; omega) (by omega) ?_; intro w2 hown2 hgrow2)
  have hk2 : Fresh w w2 := (Kept.refl _ w).grown hgrow2 (fun k _ e => by cases e)
  rw [show (Value.int .u64 0).cells = #[.int .u64 0] from rfl, Nat.mul_one, madeZeros] at hown2
  obtain ⟨S, hO2, _, _, _, _⟩ := ow_of_own hown2
  have hsp := Ow.split hO2 Q (X.length + 1)
  have hAl : ([] ++ ((List.replicate (Q + X.length + 1) 0).take Q).map (fun d : Nat => Value.int .u64 (d : Int)) : List Value).length = Q := by simp; omega
  have hpl : (((List.replicate (Q + X.length + 1) 0).drop Q).take (X.length + 1)).length = X.length + 1 := by simp; omega
  have hzz : ((List.replicate (Q + X.length + 1) 0).drop Q).take (X.length + 1) = List.replicate (X.length + 1) 0 := by simp; omega
  have hze : (List.replicate (Q + X.length + 1) 0).drop (Q + (X.length + 1)) = ([] : List Nat) := by simp; omega
  have hzt : (List.replicate (Q + X.length + 1) 0).take Q = List.replicate Q 0 := by simp; omega
  have hadd := fun cap => addTimes_any (fun k => k < w.heap.size) w.heap.size cap _ _ _ X (.slice xa X.length xc) E w2.drew (show Ow 71 .u64 w2.drew _ _ _ _ from hsp) (by rw [hzz]; exact Dg.zeros (by decide) _) (by omega) (Dw.fresh HX.out hk2.drew) (by omega) hEl
  rw [hAl, hpl] at hadd
  have HAD : Hid (Unit → _) := fun (_ : Unit) => hadd
  have hs1 : (Q : Int) ≤ ((Q + X.length + 1 : Nat) : Int) := by omega
  clear hgrow2 hown2 hsp hadd hO2
  have HK2 := show Hid _ from hk2
  have hw1 : IntKind.u64.wrap (E : Int) = (E : Int) := by rw [IntKind.wrap_u64]; omega
  have hsub : Q + X.length + 1 - Q = X.length + 1 := by omega
  clear hk2
  go_region_with (first | (go_at_call 74; refine (HAD.out () _).mono ?_; rintro e w3 ⟨o, rfl, P, hP, hdP, hvP, ho, hO3, hK3⟩))
  all_goals
    rw [hpl] at hP hvP
    rw [hzz, val_zeros, Nat.zero_add, List.take_of_length_le (show X.length ≤ X.length + 1 by omega)] at hvP
    have hj := Ow.join hO3
    rw [hzt, hze, List.append_nil] at hj
    have hvv := HEND.out P o hvP
    have hdZ : Dg 18446744073709551616 (List.replicate Q 0 ++ P) := (Dg.zeros (by decide) _).append hdP
    have hZl : (List.replicate Q 0 ++ P).length = Q + X.length + 1 := by rw [List.length_append, List.length_replicate, hP]; omega
    have hvZ : val 18446744073709551616 (List.replicate Q 0 ++ P) = M * 2 ^ n := by rw [val_append, val_zeros, List.length_replicate, Nat.zero_add]; exact hvv
    have hD := Ow.dw (B := 18446744073709551616) (cap := Q + X.length + 1) hj hdZ (by omega) (by omega) (by omega)
    rw [hZl, List.length_nil] at hD
    have ht := trim_any _ _ _ _ hD
    have HTR : Hid (Unit → _) := fun (_ : Unit) => ht
    have HU := show Hid _ from Ow.isU hj
    have HF : Hid (Fresh w w3) := HK2.out.drew.trans hK3 (fun i hi e => by have e' : i = w.heap.size := e; omega)
    have HN := show Hid _ from hvZ
    clear ht hD hvZ hZl hdZ hvv hj hvP hP hdP hO3 hK3 HAD HEND HX hpl hzz hze hzt hAl hsub
    go_wp2_with fail
    refine (HTR.out ()).mono ?_
    rintro e w4 ⟨v', rfl, hT, rfl⟩
    have hN := nm_of_trim hT HU.out
    rw [HN.out] at hN
    have HN2 := show Hid _ from hN
    clear hT hN HTR
    go_wp2
    go_ret
    exact ⟨_, rfl, HN2.out, HF.out⟩
end Go.Proofs.YtdmjfmipalifpaaGreatDoor
