/-
  A single's bits: sign, number and power, as the document reads them and as IEEE 754 does; and that a finite one is nearest to itself.
-/
import Derived.Test.YtmkaafnoanidpaaDoorSn
namespace Go.Proofs.YtmkaafnoanidpaaDoor
open Ieee

def bE (b : Nat) : Nat := b / 8388608 % 256
def bF (b : Nat) : Nat := b % 8388608
def bN (b : Nat) : Bool := decide (2147483648 ≤ b)
/-- Finite 0, infinite 1, none 2. -/
def kd (b : Nat) : Nat := if bE b = 255 then (if bF b = 0 then 1 else 2) else 0
def sg (b : Nat) : Bool := if bE b = 255 ∧ bF b ≠ 0 then false else bN b
def mt (b : Nat) : Nat := if bE b = 255 then 0 else if bE b = 0 then bF b else 8388608 + bF b
def ex (b : Nat) : Int := if bE b = 255 then 0 else if bE b = 0 then -149 else (bE b : Int) - 150

theorem single_sign : single.signWeight = 2147483648 := by decide
theorem single_binade : single.binade = 8388608 := by decide
theorem single_inf : single.infRung = 2139095040 := by decide
theorem single_least : single.leastPlace = -149 := by decide
theorem single_word (neg : Bool) (r : Nat) : single.word neg r = (if neg then 2147483648 else 0) + r := by
  unfold Format.word
  rw [single_sign]
  cases neg <;> simp

theorem bE_lt (b : Nat) : bE b < 256 := by unfold bE; omega
theorem bF_lt (b : Nat) : bF b < 8388608 := by unfold bF; omega
theorem low_eq (b : Nat) : b % 2147483648 = bE b * 8388608 + bF b := by unfold bE bF; omega
theorem top_eq (b : Nat) (hb : b < 4294967296) : (b / 2147483648 % 2 == 1) = bN b := by
  unfold bN
  by_cases h : 2147483648 ≤ b
  · rw [show b / 2147483648 = 1 by omega]; simp [h]
  · rw [show b / 2147483648 = 0 by omega]; simp [h]
theorem bits_eq (b : Nat) (hb : b < 4294967296) : b = (if bN b then 2147483648 else 0) + (bE b * 8388608 + bF b) := by
  rw [← low_eq]
  unfold bN
  by_cases h : 2147483648 ≤ b
  · simp [h]; omega
  · simp [h]; omega

theorem read_fin (b : Nat) (hb : b < 4294967296) (h : bE b ≠ 255) : single.read b = .number (bN b) (mt b) (ex b) := by
  unfold Format.read
  simp only [single_sign, single_binade, single_inf, single_least, top_eq b hb, low_eq]
  have h1 := bE_lt b
  have h2 := bF_lt b
  unfold mt ex
  rw [if_neg h, if_neg h]
  generalize bE b = e at *
  generalize bF b = f at *
  by_cases h0 : e = 0
  · subst h0
    rw [if_pos (by omega), if_pos rfl, if_pos rfl]
    simp
  · rw [if_neg (by omega), if_pos (by omega), if_neg h0, if_neg h0, show (e * 8388608 + f) % 8388608 = f by omega, show (e * 8388608 + f) / 8388608 = e by omega]
    congr 1
    omega
theorem read_inf (b : Nat) (hb : b < 4294967296) (h : bE b = 255) (hf : bF b = 0) : single.read b = .infinity (bN b) := by
  have hr := low_eq b
  rw [h, hf] at hr
  unfold Format.read
  simp only [single_sign, single_binade, single_inf, single_least, top_eq b hb]
  generalize b % 2147483648 = r at *
  rw [if_neg (by omega), if_neg (by omega), if_pos (by omega)]
theorem read_nan (b : Nat) (hb : b < 4294967296) (h : bE b = 255) (hf : bF b ≠ 0) : single.read b = .nan (bN b) (bF b) := by
  have hr := low_eq b
  rw [h] at hr
  unfold Format.read
  simp only [single_sign, single_binade, single_inf, single_least, top_eq b hb]
  generalize b % 2147483648 = r at *
  rw [if_neg (by omega), if_neg (by omega), if_neg (by omega), show r - 2139095040 = bF b by omega]

/-- A finite one is nearest to itself. -/
theorem rung_back (b : Nat) (h : bE b ≠ 255) : rung single (mt b) (ex b) = b % 2147483648 := by
  rw [low_eq]
  have h1 := bE_lt b
  have h2 := bF_lt b
  unfold mt ex
  rw [if_neg h, if_neg h]
  generalize bE b = e at *
  generalize bF b = f at *
  by_cases h0 : e = 0
  · subst h0
    rw [if_pos rfl, if_pos rfl]
    unfold rung
    by_cases hf : f = 0
    · rw [if_pos hf]; omega
    · rw [if_neg hf]
      have hg : f.log2 < 23 := (Nat.log2_lt hf).2 h2
      have el : lastOf single f (-149) = -149 := by
        show max (-149 + (f.log2 : Int) - (23 : Nat)) (-149) = -149
        omega
      rw [el, single_least, single_inf, single_binade]
      simp only [Int.sub_self, Int.toNat_zero, Nat.pow_zero, Nat.mul_one, rne_zero]
      omega
  · rw [if_neg h0, if_neg h0]
    unfold rung
    rw [if_neg (by omega)]
    have hg : (8388608 + f).log2 = 23 := (Nat.log2_eq_iff (by omega)).2 ⟨by omega, by omega⟩
    have el : lastOf single (8388608 + f) ((e : Int) - 150) = (e : Int) - 150 := by
      show max ((e : Int) - 150 + ((8388608 + f).log2 : Int) - (23 : Nat)) (-149) = (e : Int) - 150
      rw [hg]
      omega
    rw [el, single_least, single_inf, single_binade]
    simp only [Int.sub_self, Int.toNat_zero, Nat.pow_zero, Nat.mul_one, rne_zero]
    rw [show ((e : Int) - 150 - -149).toNat = e - 1 by omega]
    omega
theorem nearest_back (b : Nat) (hb : b < 4294967296) (h : bE b ≠ 255) : single.nearest (bN b) (mt b) (ex b) = b := by
  rw [nearest_rung, rung_back b h, single_word, low_eq]
  exact (bits_eq b hb).symm

theorem mt_lt (b : Nat) : mt b < 16777216 := by
  have h2 := bF_lt b
  unfold mt
  split
  · omega
  · split <;> omega
theorem ex_bounds (b : Nat) : -149 ≤ ex b ∧ ex b ≤ 104 := by
  have h1 := bE_lt b
  unfold ex
  split
  · omega
  · split <;> omega
/-- Above the least power the first digit is there. -/
theorem mt_norm (b : Nat) (h : bE b ≠ 255) (he : -149 < ex b) : 8388608 ≤ mt b := by
  unfold ex at he
  unfold mt
  rw [if_neg h] at he ⊢
  by_cases h0 : bE b = 0
  · rw [if_pos h0] at he; omega
  · rw [if_neg h0]; omega

end Go.Proofs.YtmkaafnoanidpaaDoor
