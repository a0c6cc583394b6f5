/-
  Numbers of RopeCircle and RopeStretches: a whole turn; tables begin with tables; stretched angles.
-/
import Derived.Test.YtkemaofclahaiaaDoorRpN
namespace Go.Proofs.YtkemaofclahaiaaDoor
open Go.RowKit

theorem circle_all : ∀ r, r < 256 → (snN r * snN r + sn ((r : Int) + 64) * sn ((r : Int) + 64) - 4096 ≤ 75 ∧ -75 ≤ snN r * snN r + sn ((r : Int) + 64) * sn ((r : Int) + 64) - 4096) ∧ sn ((r : Int) + 128) = - snN r ∧ sn (-(r : Int)) = - snN r := by decide +kernel
theorem circle_num (r : Nat) (hr : r < 256) : (sn r * sn r + sn ((r : Int) + 64) * sn ((r : Int) + 64) - 4096 ≤ 75 ∧ -75 ≤ sn r * sn r + sn ((r : Int) + 64) * sn ((r : Int) + 64) - 4096) ∧ sn ((r : Int) + 128) = - sn r ∧ sn ((r : Int) - 256) = sn r ∧ sn (-(r : Int)) = - sn r := by
  obtain ⟨h1, h2, h3⟩ := circle_all r hr
  rw [sn_nat r hr]
  refine ⟨h1, h2, ?_, h3⟩
  have := sn_per ((r : Int) - 256) 1
  rw [show (r : Int) - 256 + 256 * 1 = r by omega, sn_nat r hr] at this
  exact this.symm
theorem sq_bound {s : Int} (h : -64 ≤ s ∧ s ≤ 64) : 0 ≤ s * s ∧ s * s ≤ 4096 := by
  obtain ⟨a, b⟩ := h
  rcases Int.le_total 0 s with h | h
  · have h1 := Int.mul_le_mul b b h (by omega)
    have h2 := Int.mul_nonneg h h
    omega
  · have h1 := Int.mul_le_mul (show -s ≤ 64 by omega) (show -s ≤ 64 by omega) (by omega) (by omega)
    have h2 := Int.mul_nonneg (show 0 ≤ -s by omega) (show 0 ≤ -s by omega)
    rw [Int.neg_mul_neg] at h1 h2
    omega
theorem tab_zero (h i : Nat) (hi : i < h) : cosF 1 1 h i = 64 ∧ sinF 1 1 h i = 0 := by
  have h1 := cosF_at 1 1 (h := h) 0 i hi
  have h2 := sinF_at 1 1 (h := h) 0 i hi
  rw [Nat.zero_mul, Nat.zero_add] at h1 h2
  rw [h1, h2]
  have e : ang 1 1 0 i = 0 := by unfold ang; simp
  rw [e]
  decide
theorem mkL_pre (f : Nat → Int) {m n : Nat} (h : m ≤ n) : (mkL n f).take m = mkL m f := by
  simp only [mkL, ← List.map_take, List.take_range, Nat.min_eq_left h]
theorem stE_two (places half : Int) : (stE places half 1 1 = 102) ∨ (∃ P h : Nat, places = P ∧ half = h ∧ 1 ≤ P ∧ P ≤ 512 ∧ 1 ≤ h ∧ h ≤ 32 ∧ stE places half 1 1 = 0) := by
  rcases stE_cases places half 1 1 with ⟨h, _⟩ | ⟨P, h, h1, h2, p1, p2, q1, q2, ⟨_, h3⟩ | ⟨h3, _⟩⟩
  · exact .inl h
  · omega
  · exact .inr ⟨P, h, h1, h2, p1, p2, q1, q2, h3⟩
theorem stE_ok {P h : Nat} {num den : Int} (p1 : 1 ≤ P) (p2 : P ≤ 512) (q1 : 1 ≤ h) (q2 : h ≤ 32) (n1 : 1 ≤ num) (n2 : num ≤ 65536) (d1 : 1 ≤ den) (d2 : den ≤ 65536) : stE P h num den = 0 := by
  unfold stE; rw [if_neg (by omega), if_neg (by omega)]
/-- By a number over itself nothing is stretched. -/
theorem ang_self {num : Int} (h : 1 ≤ num) (p i : Nat) : ang num num p i = ang 1 1 p i := by
  unfold ang
  rw [Int.mul_ediv_mul_of_pos_left _ _ (by omega), Int.mul_ediv_mul_of_pos_left _ _ (by omega)]
/-- Stretched by one half, twice as far. -/
theorem ang_half (p i : Nat) : ang 1 2 (2 * p) i = ang 1 1 p i := by
  unfold ang
  rw [show 64 * ((2 * p : Nat) : Int) * 1 = 64 * (p : Int) * 1 * 2 by omega, Int.mul_one (2 ^ i), Int.mul_ediv_mul_of_pos_left _ _ (by omega)]
theorem self_L {P h : Nat} {num : Int} (hn : 1 ≤ num) (h0 : stE P h num num = 0) (h1 : stE P h 1 1 = 0) : cosL P h num num = cosL P h 1 1 ∧ sinL P h num num = sinL P h 1 1 := by
  rw [cosL_ok h0, cosL_ok h1, sinL_ok h0, sinL_ok h1]
  unfold cosF sinF
  simp only [ang_self hn, and_self]
theorem half_L {P h p : Nat} (h0 : stE P h 1 2 = 0) (h1 : stE P h 1 1 = 0) (hp : 2 * p < P) : ((cosL P h 1 2).drop (2 * p * h)).take h = ((cosL P h 1 1).drop (p * h)).take h ∧ ((sinL P h 1 2).drop (2 * p * h)).take h = ((sinL P h 1 1).drop (p * h)).take h := by
  rw [cosL_ok h0, cosL_ok h1, sinL_ok h0, sinL_ok h1]
  have b1 : 2 * p * h + h ≤ P * h := by have := Nat.mul_le_mul_right h (show 2 * p + 1 ≤ P by omega); rw [Nat.add_mul, Nat.one_mul] at this; omega
  have b2 : p * h + h ≤ P * h := by have := Nat.mul_le_mul_right h (show p + 1 ≤ P by omega); rw [Nat.add_mul, Nat.one_mul] at this; omega
  constructor
  all_goals
    apply List.ext_getElem
    · simp [mkL]; omega
    · intro i i1 i2
      have hi : i < h := by simp at i1; omega
      simp only [mkL, List.getElem_take, List.getElem_drop, List.getElem_map, List.getElem_range]
      first
        | rw [cosF_at _ _ _ _ hi, cosF_at _ _ _ _ hi, ang_half]
        | rw [sinF_at _ _ _ _ hi, sinF_at _ _ _ _ hi, ang_half]
end Go.Proofs.YtkemaofclahaiaaDoor
