/-
  Bit of a number, the program's and the document's.
-/
import Derived.Test.YtdmjfmipalifpaaGreatDoorLka
import Derived.Test.YtdmjfmipalifpaaGreatDoorMdN
namespace Go.Proofs.YtdmjfmipalifpaaGreatDoor
open Go.RowKit

def btI (N : Nat) (i : Int) : Int := if i < 0 then 0 else ((N / 2 ^ i.toNat % 2 : Nat) : Int)
/-- The digit of worth 2^i, in the word that it lies in. -/
theorem bit_word (j N i : Nat) (hj : 0 < j) : N / (2 ^ j) ^ (i / j) % 2 ^ j / 2 ^ (i % j) % 2 = N / 2 ^ i % 2 := by
  have h1 : i % j < j := Nat.mod_lt _ hj
  obtain ⟨e, he⟩ : ∃ e, j = i % j + 1 + e := ⟨j - (i % j + 1), by omega⟩
  have h2 : N / 2 ^ i = N / (2 ^ j) ^ (i / j) / 2 ^ (i % j) := by
    rw [← Nat.pow_mul, Nat.div_div_eq_div_mul, ← Nat.pow_add, Nat.div_add_mod]
  rw [h2]
  generalize N / (2 ^ j) ^ (i / j) = M
  generalize i % j = r at *
  rw [he, Nat.pow_add, Nat.pow_succ, Nat.mul_assoc, Nat.mod_mul_right_div_self, Nat.mod_mul_right_mod]

theorem and_one_u (n : Nat) (h : n < 18446744073709551616) : bits .and .u64 (n : Int) 1 = ((n % 2 : Nat) : Int) := by
  have := bits_and_u64_nat n 1 h (by omega)
  rw [show ((1 : Nat) : Int) = 1 from rfl] at this
  rw [this, Nat.and_one_is_mod]

set_option maxHeartbeats 400000 in
set_option maxRecDepth 100000 in
theorem natBit_any (v : Value) (N : Nat) (i : Int) (w : World) (h : Nm w v N) (hi0 : -9223372036854775808 ≤ i) (hi1 : i ≤ 9223372036854775807) :
    Calls Tryz.prog 19 #[.agg #[v], .int .i64 i] w fun e w' => e = .returned (.int .i64 (btI N i)) ∧ Fresh w w' := by
  obtain ⟨L, hL, hc, hv, _⟩ := h
  have hdg := hL.dg
  have ht := fun (k : Nat) (hk : k ≤ 9223372036854775807) W (hF : Fresh w W) => at_any _ v L k W (Dw.fresh hL hF) hk
  obtain ⟨a, c, rfl⟩ := hL.shape
  have hF1 : Fresh w (w.alloc (.cells #[.slice a L.length c] 26)) := (Kept.refl _ _).alloc _
  have HF1 := show Hid _ from hF1
  clear hF1
  by_cases hn : i < 0
  · rw [show btI N i = 0 from if_pos hn]
    clear ht hdg hL hv
    go_enter Tryz.func19, Tryz.ntmps19
    go_wp2
    go_ret
    exact ⟨rfl, HF1.out⟩
  · rw [show btI N i = ((N / 2 ^ i.toNat % 2 : Nat) : Int) from if_neg hn]
    obtain ⟨k, rfl⟩ : ∃ k : Nat, i = (k : Int) := ⟨i.toNat, by omega⟩
    rw [Int.toNat_natCast, ← bit_word 64 N k (by decide), ← hv]
    rw [show (2 ^ 64 : Nat) = 18446744073709551616 by decide, val_digit (by decide) _ hdg]
    have ht' := ht (k / 64) (by omega)
    have hdl := Dg.getD (by decide) hdg (k / 64)
    have HT : Hid (Unit → _) := fun (_ : Unit) => ht'
    have q1 : (k : Int) / 64 = ((k / 64 : Nat) : Int) := by omega
    have q2 : (k : Int).tdiv 64 = ((k / 64 : Nat) : Int) := by rw [Int.tdiv_eq_ediv_of_nonneg (by omega)]; exact q1
    have q3 : (k : Int) % 64 = ((k % 64 : Nat) : Int) := by omega
    have q4 : (k : Int).tmod 64 = ((k % 64 : Nat) : Int) := by rw [Int.tmod_eq_emod_of_nonneg (by omega)]; exact q3
    generalize L.getD (k / 64) 0 = D at *
    generalize k / 64 = Q at *
    have hr : k % 64 < 64 := Nat.mod_lt _ (by decide)
    generalize k % 64 = R at *
    have hsh : D / 2 ^ R ≤ D := Nat.div_le_self _ _
    have a1 : bits .and .u64 ((D : Int) / 2 ^ R) 1 = ((D / 2 ^ R % 2 : Nat) : Int) := by
      rw [show (D : Int) / 2 ^ R = ((D / 2 ^ R : Nat) : Int) by simp]
      exact and_one_u _ (by omega)
    have hX : D / 2 ^ R % 2 < 2 := Nat.mod_lt _ (by decide)
    generalize D / 2 ^ R % 2 = X at *
    clear ht ht' hdg hL hv hc
    go_enter Tryz.func19, Tryz.ntmps19
    go_wp2_with fail
    refine (HT.out () _ HF1.out).mono ?_
    rintro e w1 ⟨rfl, rfl⟩
    clear HT
    go_wp2
    go_ret
    exact ⟨rfl, HF1.out⟩
set_option maxHeartbeats 400000 in
set_option maxRecDepth 100000 in
theorem refBit_any (v : Value) (N : Nat) (i : Int) (w : World) (h : Rn w v N) (hi0 : -9223372036854775808 ≤ i) (hi1 : i ≤ 9223372036854775807) :
    Calls Tryz.prog 20 #[v, .int .i64 i] w fun e w' => e = .returned (.int .i64 (btI N i)) ∧ w' = w := by
  obtain ⟨L, hL, hc, hv⟩ := h
  have hdg := hL.dg
  have hlen := hL.len
  obtain ⟨ao, cap, rfl, _, _, hcell, _⟩ := hL
  by_cases hn : i < 0
  · rw [show btI N i = 0 from if_pos hn]
    clear hcell hdg
    go_enter Tryz.func20, Tryz.ntmps20
    go_wp2
    go_ret
    exact ⟨rfl, rfl⟩
  · rw [show btI N i = ((N / 2 ^ i.toNat % 2 : Nat) : Int) from if_neg hn]
    obtain ⟨k, rfl⟩ : ∃ k : Nat, i = (k : Int) := ⟨i.toNat, by omega⟩
    rw [Int.toNat_natCast, ← bit_word 16 N k (by decide), ← hv]
    rw [show (2 ^ 16 : Nat) = 65536 by decide, val_digit (by decide) _ hdg]
    have q1 : (k : Int) / 16 = ((k / 16 : Nat) : Int) := by omega
    have q2 : (k : Int).tdiv 16 = ((k / 16 : Nat) : Int) := by rw [Int.tdiv_eq_ediv_of_nonneg (by omega)]; exact q1
    have q3 : (k : Int) % 16 = ((k % 16 : Nat) : Int) := by omega
    have q4 : (k : Int).tmod 16 = ((k % 16 : Nat) : Int) := by rw [Int.tmod_eq_emod_of_nonneg (by omega)]; exact q3
    by_cases hlt : k / 16 < L.length
    · have hdl := Dg.getD (by decide) hdg (k / 16)
      obtain ⟨b, off, rfl, _, _, hce⟩ := hcell (fun e => by rw [e] at hlt; simp at hlt)
      have hcu := hce (k / 16) hlt
      generalize L.getD (k / 16) 0 = D at *
      have hlt' : ((k / 16 : Nat) : Int) < (L.length : Int) := by omega
      have hQ := show k / 16 ≤ k by omega
      generalize k / 16 = Q at *
      have hr : k % 16 < 16 := Nat.mod_lt _ (by decide)
      generalize k % 16 = R at *
      have a1 : bits .and .i64 ((D : Int) / 2 ^ R) 1 = ((D / 2 ^ R % 2 : Nat) : Int) := by
        rw [show (D : Int) / 2 ^ R = ((D / 2 ^ R : Nat) : Int) by simp, and_one]
        simp
      generalize D / 2 ^ R % 2 = X at *
      clear hcell hce hdg hv hc
      go_enter Tryz.func20, Tryz.ntmps20
      go_wp2
      go_ret
      exact ⟨rfl, rfl⟩
    · have h0 : L.getD (k / 16) 0 = 0 := by rw [List.getD_eq_getElem?_getD, List.getElem?_eq_none (by omega)]; rfl
      rw [h0, Nat.zero_div]
      have hlt' : ¬ ((k / 16 : Nat) : Int) < (L.length : Int) := by omega
      have hge' : (L.length : Int) ≤ ((k / 16 : Nat) : Int) := by omega
      generalize k / 16 = Q at *
      generalize k % 16 = R at *
      clear hcell hdg hv hc h0
      go_enter Tryz.func20, Tryz.ntmps20
      go_wp2
      go_ret
      exact ⟨rfl, rfl⟩
end Go.Proofs.YtdmjfmipalifpaaGreatDoor
