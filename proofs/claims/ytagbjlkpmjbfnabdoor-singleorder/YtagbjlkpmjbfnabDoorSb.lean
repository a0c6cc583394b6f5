/-
  Sums with 0, with infinite ones, the other way round; by whole numbers.
-/
import Derived.Test.YtagbjlkpmjbfnabDoorSa
namespace Go.Proofs.YtagbjlkpmjbfnabDoor
open Ieee

theorem sum_comm (x y : Datum) : x.sum y = y.sum x := by
  cases x with
  | nan s t => cases y <;> rfl
  | infinity s =>
    cases y with
    | nan t u => rfl
    | infinity t =>
      simp only [Datum.sum]
      by_cases h : s = t
      · subst h; rfl
      · rw [if_neg h, if_neg (fun e => h e.symm)]
    | number t n f => rfl
  | number s m e =>
    cases y with
    | nan t u => rfl
    | infinity t => rfl
    | number t n f =>
      simp only [Datum.sum]
      rw [Int.min_comm f e, Int.add_comm (signed t n _), Bool.and_comm t s]
theorem add_comm' (a b : Nat) : single.add a b = single.add b a := by unfold Format.add; rw [sum_comm]

theorem sum_zeros (s t : Bool) (e f : Int) : ((Datum.number s 0 e).sum (.number t 0 f)).map single.write = some (single.word (s && t) 0) := by
  simp only [Datum.sum, Option.map_some, Format.write, signed_eq, Nat.zero_mul]
  cases s <;> cases t <;> simp <;> rw [nearest_rung] <;> unfold rung <;> simp
theorem sum_zero_left (s t : Bool) (n : Nat) (f : Int) (hn : n ≠ 0) (hf : -149 ≤ f) : ((Datum.number s 0 (-149)).sum (.number t n f)).map single.write = some (single.nearest t n f) := by
  have hb : min (-149) f = -149 := by omega
  simp only [Datum.sum, Option.map_some, hb, signed_eq, Nat.zero_mul, Format.write]
  obtain ⟨k, rfl⟩ : ∃ k : Nat, f = -149 + (k : Int) := ⟨(f + 149).toNat, by omega⟩
  rw [show (-149 + (k : Int) - -149).toNat = k by omega]
  have hr := rung_shift single n k (-149 + (k : Int))
  rw [show -149 + (k : Int) - (k : Int) = -149 by omega] at hr
  have hp : 0 < n * 2 ^ k := Nat.mul_pos (by omega) (Nat.two_pow_pos k)
  rw [nearest_rung, nearest_rung, ← hr]
  congr 1
  generalize n * 2 ^ k = P at *
  cases s <;> cases t <;> simp only [Bool.false_eq_true, if_false, if_true]
  · rw [show ((0 : Nat) : Int) + (P : Int) = (P : Int) by omega, if_neg (by omega), decide_eq_false (by omega)]; rfl
  · rw [show ((0 : Nat) : Int) + -(P : Int) = -(P : Int) by omega, if_neg (by omega), decide_eq_true (by omega), Int.natAbs_neg]; rfl
  · rw [show -((0 : Nat) : Int) + (P : Int) = (P : Int) by omega, if_neg (by omega), decide_eq_false (by omega)]; rfl
  · rw [show -((0 : Nat) : Int) + -(P : Int) = -(P : Int) by omega, if_neg (by omega), decide_eq_true (by omega), Int.natAbs_neg]; rfl

theorem inf_bits (a : Nat) (ha : a < 4294967296) (h : bE a = 255) (hf : bF a = 0) : single.word (bN a) 2139095040 = a := by
  have := bits_eq a ha
  rw [h, hf] at this
  rw [single_word]
  omega
theorem zero_ex (b : Nat) (h : mt b = 0) (hk : bE b ≠ 255) : ex b = -149 := by
  unfold mt at h
  unfold ex
  rw [if_neg hk] at h ⊢
  by_cases h0 : bE b = 0
  · rw [if_pos h0]
  · rw [if_neg h0] at h; omega
theorem lesser_le (m n d : Nat) (hm : 1 ≤ m) (hn : n < 16777216) (h : n ≤ m * 2 ^ d) : lesser n d ≤ m * 2 ^ 33 := by
  unfold lesser
  by_cases hd : d ≤ 33
  · rw [if_pos hd]
    have e : m * 2 ^ 33 = m * 2 ^ d * 2 ^ (33 - d) := by rw [Nat.mul_assoc, ← Nat.pow_add, show d + (33 - d) = 33 by omega]
    rw [e]
    exact Nat.mul_le_mul_right _ h
  · rw [if_neg hd]
    have hq : n / 2 ^ (d - 33) ≤ n := Nat.div_le_self _ _
    have hj : jam (n / 2 ^ (d - 33)) (decide (n % 2 ^ (d - 33) ≠ 0)) ≤ n / 2 ^ (d - 33) + 1 := by unfold jam; split <;> omega
    omega

/-- A sum of two finite ones, neither 0: the greater one first (S, M, E), the lesser one behind it (T, N, F); V is the sum's bits. -/
theorem add_ord (a b : Nat) (ha : a < 4294967296) (hb : b < 4294967296) (ka : bE a ≠ 255) (kb : bE b ≠ 255) (za : mt a ≠ 0) (zb : mt b ≠ 0) :
    ∃ (S T : Bool) (M N d x y V : Nat) (F : Int), single.add a b = some V ∧ M < 16777216 ∧ N < 16777216 ∧ -149 ≤ F ∧ F ≤ 104 ∧ F + d ≤ 104 ∧ x = M * 2 ^ 33 ∧ y = lesser N d ∧ y ≤ x ∧ 1 ≤ N ∧
      (S = T → V = single.nearest S (x + y) (F + d - 33)) ∧ (S ≠ T → x = y → V = 0) ∧ (S ≠ T → x ≠ y → V = single.nearest S (x - y) (F + d - 33)) ∧
      ((cmp3 (szv (mt a) (ex a)) (szv (mt b) (ex b)) < 0 ∧ bN b = S ∧ mt b = M ∧ ex b = F + d ∧ bN a = T ∧ mt a = N ∧ ex a = F) ∨ (¬ cmp3 (szv (mt a) (ex a)) (szv (mt b) (ex b)) < 0 ∧ bN a = S ∧ mt a = M ∧ ex a = F + d ∧ bN b = T ∧ mt b = N ∧ ex b = F)) := by
  obtain ⟨a1, a2⟩ := ex_bounds a
  obtain ⟨b1, b2⟩ := ex_bounds b
  have l1 := mt_lt a
  have l2 := mt_lt b
  have fin : ∀ (S T : Bool) (M N d : Nat) (E F : Int), E = F + d → 1 ≤ M → 1 ≤ N → N < 16777216 → N ≤ M * 2 ^ d → ∃ V, ((Datum.number S M E).sum (.number T N F)).map single.write = some V ∧ lesser N d ≤ M * 2 ^ 33 ∧
      (S = T → V = single.nearest S (M * 2 ^ 33 + lesser N d) (F + d - 33)) ∧ (S ≠ T → M * 2 ^ 33 = lesser N d → V = 0) ∧ (S ≠ T → M * 2 ^ 33 ≠ lesser N d → V = single.nearest S (M * 2 ^ 33 - lesser N d) (F + d - 33)) := by
    intro S T M N d E F hE hM hN hN2 hNM
    refine ⟨_, sum_fin S T M N d E F hE hM hN hN2 hNM, lesser_le M N d hM hN2 hNM, ?_, ?_, ?_⟩
    · intro h; rw [if_pos h, nearest_rung, hE]
    · intro h g; rw [if_neg h, if_pos g]
    · intro h g; rw [if_neg h, if_neg g, nearest_rung, hE]
  by_cases hlt : szv (mt a) (ex a) < szv (mt b) (ex b)
  · have hc : cmp3 (szv (mt a) (ex a)) (szv (mt b) (ex b)) < 0 := by unfold cmp3; rw [if_pos (by omega)]; omega
    have hp := power_le (m := mt b) (n := mt a) (e := ex b) (f := ex a) l2 (mt_norm a ka) b1 (by omega)
    obtain ⟨d, hd⟩ : ∃ d : Nat, ex b = ex a + d := ⟨(ex b - ex a).toNat, by omega⟩
    have hs : mt a ≤ mt b * 2 ^ d := size_le (e := ex b) (f := ex a) hd a1 (by omega)
    obtain ⟨V, v1, v2, v3, v4, v5⟩ := fin (bN b) (bN a) (mt b) (mt a) d (ex b) (ex a) hd (by omega) (by omega) l1 hs
    refine ⟨bN b, bN a, mt b, mt a, d, _, _, V, ex a, ?_, l2, l1, a1, a2, by omega, rfl, rfl, v2, by omega, v3, v4, v5, .inl ⟨hc, rfl, rfl, hd, rfl, rfl, rfl⟩⟩
    rw [add_comm']
    unfold Format.add
    rw [read_fin a ha ka, read_fin b hb kb]
    exact v1
  · have hc : ¬ cmp3 (szv (mt a) (ex a)) (szv (mt b) (ex b)) < 0 := by unfold cmp3; rw [if_neg (by omega)]; split <;> omega
    have hp := power_le (m := mt a) (n := mt b) (e := ex a) (f := ex b) l1 (mt_norm b kb) a1 (by omega)
    obtain ⟨d, hd⟩ : ∃ d : Nat, ex a = ex b + d := ⟨(ex a - ex b).toNat, by omega⟩
    have hs : mt b ≤ mt a * 2 ^ d := size_le (e := ex a) (f := ex b) hd b1 (by omega)
    obtain ⟨V, v1, v2, v3, v4, v5⟩ := fin (bN a) (bN b) (mt a) (mt b) d (ex a) (ex b) hd (by omega) (by omega) l2 hs
    refine ⟨bN a, bN b, mt a, mt b, d, _, _, V, ex b, ?_, l1, l2, b1, b2, by omega, rfl, rfl, v2, by omega, v3, v4, v5, .inr ⟨hc, rfl, rfl, hd, rfl, rfl, rfl⟩⟩
    unfold Format.add
    rw [read_fin a ha ka, read_fin b hb kb]
    exact v1

end Go.Proofs.YtagbjlkpmjbfnabDoor
