/-
  What the program asks of a nearest whole number: is it above 127, and which number of 8 bits it is.
-/
import Derived.Test.YtmkaafnoanidpaaDoorLe
namespace Go.Proofs.YtmkaafnoanidpaaDoor
open Go.RowKit Ieee

theorem rne_le (n d : Nat) : rne n d ≤ n := by
  have hp := Nat.two_pow_pos d
  rcases Nat.eq_zero_or_pos d with rfl | hd
  · rw [rne_zero]; exact Nat.le_refl _
  · have h2 : 2 ^ 1 ≤ 2 ^ d := Nat.pow_le_pow_right (by omega) hd
    have hdm := Nat.div_add_mod n (2 ^ d)
    unfold rne
    generalize n / 2 ^ d = q at *
    generalize n % 2 ^ d = r at *
    generalize 2 ^ d = P at *
    have : 2 * q ≤ P * q := Nat.mul_le_mul_right _ (by omega)
    split <;> omega

/-- What a nearest whole number stands for, in units of 2^-60. -/
theorem nst_read (N : Bool) (m : Nat) (t : Int) (hm : m < 16777216) (ht : t ≤ 300) : ∃ (M : Nat) (i : Int), double.read (double.nearest N (rnI m t) 0) = .number N M i ∧ (rnI m t = 0 → M = 0) ∧ (rnI m t ≠ 0 → -60 ≤ i ∧ M * 2 ^ (i + 60).toNat = rnI m t * 2 ^ 60) := by
  by_cases h0 : rnI m t = 0
  · rw [h0, nearest_zero]
    have hw : double.word N 0 = dbl N 0 0 := dbl_word N 0 0
    rw [hw]
    exact ⟨0, -1074, zero_read N, fun _ => rfl, fun h => absurd rfl h⟩
  · have hm0 : m ≠ 0 := by intro h; rw [h, rnI_zero] at h0; exact h0 rfl
    have hlm : m.log2 < 24 := (Nat.log2_lt hm0).2 hm
    rcases Int.lt_or_le 0 t with hp | hp
    · have hW : rnI m t = m * 2 ^ t.toNat := by unfold rnI; rw [show (-t).toNat = 0 by omega, rne_zero]
      obtain ⟨k, E, F, h1, h2, h3, h4, h5⟩ := dbl_nearest N m t hm0 (by omega) (by omega) (by omega)
      have hx : double.nearest N (rnI m t) 0 = dbl N E F := by
        rw [← h5, hW, nearest_rung, nearest_rung]
        have := rung_shift double m t.toNat t
        rw [show t - (t.toNat : Int) = 0 by omega] at this
        rw [this]
      rw [hx, dbl_read N E F (by omega) (by omega) h4]
      refine ⟨_, _, rfl, fun h => absurd h h0, fun _ => ⟨by omega, ?_⟩⟩
      rw [← h3, hW, Nat.mul_assoc, Nat.mul_assoc, ← Nat.pow_add, ← Nat.pow_add]
      congr 2
      omega
    · have hle : rnI m t ≤ m := by unfold rnI; rw [show t.toNat = 0 by omega, Nat.pow_zero, Nat.mul_one]; exact rne_le _ _
      have hlw : (rnI m t).log2 < 24 := (Nat.log2_lt h0).2 (by omega)
      generalize rnI m t = W at *
      obtain ⟨k, E, F, h1, h2, h3, h4, h5⟩ := dbl_nearest N W 0 h0 (by omega) (by omega) (by omega)
      rw [h5, dbl_read N E F (by omega) (by omega) h4]
      refine ⟨_, _, rfl, fun h => absurd h h0, fun _ => ⟨by omega, ?_⟩⟩
      rw [← h3, Nat.mul_assoc, ← Nat.pow_add]
      congr 2
      omega

theorem read_127 : double.read 4638637247447433216 = .number false (4503599627370496 + 4433230883192832) ((1029 : Int) - 1075) := dbl_read false 1029 4433230883192832 (by decide) (by decide) (by decide)

/-- Against 127. -/
theorem order_127 (m : Nat) (t : Int) (hm : m < 16777216) (ht : t ≤ 300) : double.order (double.nearest false (rnI m t) 0) 4638637247447433216 = some (compare ((rnI m t : Nat) : Int) 127) := by
  obtain ⟨M, i, hr, h0, h1⟩ := nst_read false m t hm ht
  have e127 : (4503599627370496 + 4433230883192832) * 2 ^ ((1029 : Int) - 1075 - (-60)).toNat = 127 * 2 ^ 60 := by decide
  by_cases hz : rnI m t = 0
  · rw [h0 hz] at hr
    rcases Int.le_total (-60) i with hi | hi
    · rw [order_number double hr read_127 (-60) hi (by omega), compare_int, compare_int, hz]
      simp only [Bool.false_eq_true, if_false, Nat.zero_mul]
      rw [e127, if_pos (by omega), if_pos (by omega)]
    · rw [order_number double hr read_127 i (Int.le_refl _) (by omega), compare_int, compare_int, hz]
      simp only [Bool.false_eq_true, if_false, Nat.zero_mul]
      have hp := Nat.two_pow_pos ((1029 : Int) - 1075 - i).toNat
      generalize 2 ^ ((1029 : Int) - 1075 - i).toNat = P at *
      have : (4503599627370496 + 4433230883192832) * 1 ≤ (4503599627370496 + 4433230883192832) * P := Nat.mul_le_mul_left _ hp
      rw [if_pos (by omega), if_pos (by omega)]
  · obtain ⟨hi, hM⟩ := h1 hz
    rw [order_number double hr read_127 (-60) hi (by omega)]
    simp only [Bool.false_eq_true, if_false]
    rw [e127, show i - -60 = i + 60 by omega, hM]
    have := compare_scale ((rnI m t : Nat) : Int) 127 (2 ^ 60) (by decide)
    rw [← this]
    rfl
theorem leq_127 (m : Nat) (t : Int) (hm : m < 16777216) (ht : t ≤ 300) : (double.order (double.nearest false (rnI m t) 0) 4638637247447433216 == some .lt || double.order (double.nearest false (rnI m t) 0) 4638637247447433216 == some .eq) = decide (rnI m t ≤ 127) := by
  rw [order_127 m t hm ht, compare_int]
  generalize rnI m t = W
  by_cases h : W ≤ 127
  · rw [decide_eq_true h]
    by_cases g : W = 127
    · rw [if_neg (by omega), if_pos (by omega)]; rfl
    · rw [if_pos (by omega)]; rfl
  · rw [decide_eq_false h, if_neg (by omega), if_neg (by omega)]; rfl
theorem gtr_127 (m : Nat) (t : Int) (hm : m < 16777216) (ht : t ≤ 300) : (double.order (double.nearest false (rnI m t) 0) 4638637247447433216 == some .gt) = decide (127 < rnI m t) := by
  rw [order_127 m t hm ht, compare_int]
  generalize rnI m t = W
  by_cases h : 127 < W
  · rw [decide_eq_true h, if_neg (by omega), if_neg (by omega)]; rfl
  · rw [decide_eq_false h]
    by_cases g : W = 127
    · rw [if_neg (by omega), if_pos (by omega)]; rfl
    · rw [if_pos (by omega)]; rfl

/-- A whole number of 8 bits, out of 64. -/
def sgnI (N : Bool) (W : Nat) : Int := if N then -(W : Int) else (W : Int)
theorem to_i8 (N : Bool) (W : Nat) (hW : W ≤ 127) : floatToIntVal .f64 (double.nearest N W 0) .i8 = some (sgnI N W) := by
  have hcut : ∀ (M : Nat) (i : Int) , double.read (double.nearest N W 0) = .number N M i → (Toward.zero.cut N (M <<< i.toNat) (-i).toNat = W) → floatToIntVal .f64 (double.nearest N W 0) .i8 = some (sgnI N W) := by
    intro M i hr hc
    have hd : FloatKind.f64.decode (double.nearest N W 0) = .number N M i := hr
    unfold floatToIntVal
    have ht : (FloatKind.f64.decode (double.nearest N W 0)).toInt .zero = some (sgnI N W) := by
      rw [hd]
      show some (signed N (Toward.zero.cut N (M <<< i.toNat) (-i).toNat) 0) = _
      rw [hc, signed_eq, Nat.pow_zero, Nat.mul_one]
      rfl
    rw [ht]
    have hb : IntKind.i8.min ≤ sgnI N W ∧ sgnI N W ≤ IntKind.i8.max := by
      have e1 : IntKind.i8.min = -128 := by decide
      have e2 : IntKind.i8.max = 127 := by decide
      rw [e1, e2]
      unfold sgnI
      split <;> omega
    simp only [hb, and_self, if_true]
  by_cases h0 : W = 0
  · subst h0
    have hw : double.nearest N 0 0 = dbl N 0 0 := by rw [nearest_zero]; exact dbl_word N 0 0
    refine hcut 0 (-1074) (by rw [hw]; exact zero_read N) ?_
    unfold Toward.cut
    simp
  · have hlw : W.log2 < 7 := (Nat.log2_lt h0).2 (by omega)
    obtain ⟨k, E, F, h1, h2, h3, h4, h5⟩ := dbl_nearest N W 0 h0 (by omega) (by omega) (by omega)
    refine hcut (4503599627370496 + F) ((E : Int) - 1075) (by rw [h5]; exact dbl_read N E F (by omega) (by omega) h4) ?_
    rw [← h3]
    have hl := log2_mul_pow h0 k
    unfold Toward.cut
    rw [show ((E : Int) - 1075).toNat = 0 by omega, show (-((E : Int) - 1075)).toNat = k by omega, Nat.shiftLeft_zero, hl, Nat.min_eq_left (by omega), Nat.one_shiftLeft]
    simp only [Bool.toNat_false, Nat.add_zero]
    exact Nat.mul_div_cancel _ (Nat.two_pow_pos k)

/-- Sizes in the order of their bits. -/
theorem rne_mono {a b : Nat} (d : Nat) (h : a ≤ b) : rne a d ≤ rne b d := by
  have hp := Nat.two_pow_pos d
  have ha := Nat.div_add_mod a (2 ^ d)
  have hb := Nat.div_add_mod b (2 ^ d)
  have ra := Nat.mod_lt a hp
  have rb := Nat.mod_lt b hp
  have hq : a / 2 ^ d ≤ b / 2 ^ d := Nat.div_le_div_right h
  unfold rne
  generalize a / 2 ^ d = q at *
  generalize b / 2 ^ d = p at *
  generalize a % 2 ^ d = r at *
  generalize b % 2 ^ d = s at *
  rcases Nat.lt_or_ge q p with g | g
  · split <;> split <;> omega
  · obtain rfl : q = p := by omega
    generalize 2 ^ d * q = X at *
    split <;> split <;> omega
theorem szv_mono {a b : Nat} (ha : bE a ≠ 255) (hb : bE b ≠ 255) (h : a % 2147483648 ≤ b % 2147483648) : szv (mt a) (ex a) ≤ szv (mt b) (ex b) := by
  rw [low_eq, low_eq] at h
  have a2 := bF_lt a
  have b2 := bF_lt b
  unfold szv mt ex
  rw [if_neg ha, if_neg ha, if_neg hb, if_neg hb]
  generalize bE a = E at *
  generalize bF a = F at *
  generalize bE b = E' at *
  generalize bF b = F' at *
  by_cases e0 : E = 0
  · subst e0
    rw [if_pos rfl, if_pos rfl, show ((-149 : Int) + 149).toNat = 0 by decide, Nat.pow_zero, Nat.mul_one]
    by_cases e1 : E' = 0
    · subst e1
      rw [if_pos rfl, if_pos rfl, show ((-149 : Int) + 149).toNat = 0 by decide, Nat.pow_zero, Nat.mul_one]
      omega
    · rw [if_neg e1, if_neg e1]
      have hp := Nat.two_pow_pos ((E' : Int) - 150 + 149).toNat
      generalize 2 ^ ((E' : Int) - 150 + 149).toNat = P at *
      have : (8388608 + F') * 1 ≤ (8388608 + F') * P := Nat.mul_le_mul_left _ hp
      omega
  · have e1 : E' ≠ 0 := by omega
    rw [if_neg e0, if_neg e0, if_neg e1, if_neg e1]
    rcases Nat.lt_or_ge E E' with g | g
    · have hp : 2 ^ ((E : Int) - 150 + 149).toNat * 2 ^ 1 ≤ 2 ^ ((E' : Int) - 150 + 149).toNat := by
        rw [← Nat.pow_add]; exact Nat.pow_le_pow_right (by omega) (by omega)
      generalize 2 ^ ((E : Int) - 150 + 149).toNat = P at *
      generalize 2 ^ ((E' : Int) - 150 + 149).toNat = P' at *
      have h1 : (8388608 + F) * P ≤ 16777216 * P := Nat.mul_le_mul_right _ (by omega)
      have h2 : 8388608 * P' ≤ (8388608 + F') * P' := Nat.mul_le_mul_right _ (by omega)
      omega
    · obtain rfl : E = E' := by omega
      exact Nat.mul_le_mul_right _ (by omega)
theorem rnI_szv (b : Nat) (s : Int) : rnI (mt b) (ex b + s) = rnI (szv (mt b) (ex b)) (s - 149) := by
  have he := (ex_bounds b).1
  have := rnI_shift (mt b) (ex b + 149).toNat (ex b + s)
  unfold szv
  rw [← this]
  congr 1
  omega
theorem rnI_mono {a b : Nat} (t : Int) (h : a ≤ b) : rnI a t ≤ rnI b t := by
  unfold rnI
  exact rne_mono _ (Nat.mul_le_mul_right _ h)
/-- The number of the greatest size has the greatest nearest whole number. -/
theorem nst_mono {a b : Nat} (ha : bE a ≠ 255) (hb : bE b ≠ 255) (s : Int) (h : a % 2147483648 ≤ b % 2147483648) : rnI (mt a) (ex a + s) ≤ rnI (mt b) (ex b + s) := by
  rw [rnI_szv, rnI_szv]
  exact rnI_mono _ (szv_mono ha hb h)

end Go.Proofs.YtmkaafnoanidpaaDoor
