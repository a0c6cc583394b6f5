/-
  The numbers of layer 3: the nearest whole number, the nearest float, and what of a number has no part in it.
-/
import Derived.WalkKit
import Derived.WalkSpells
import Derived.WalkLawsBesides
import Derived.Laws.FloatArith
import Derived.Laws.MathBits
namespace Go.Proofs.YtmkaafnoanidpaaDoor
open Ieee

/-- The whole number nearest to n / 2^d, of two the even one. -/
def rne (n d : Nat) : Nat := n / 2 ^ d + (if 2 ^ d < 2 * (n % 2 ^ d) ∨ (2 ^ d = 2 * (n % 2 ^ d) ∧ n / 2 ^ d % 2 = 1) then 1 else 0)

theorem rne_zero (n : Nat) : rne n 0 = n := by
  unfold rne
  have : n % 2 ^ 0 = 0 := by omega
  rw [this, if_neg (by omega)]
  simp

theorem rne_small (n d : Nat) (h : 2 * n < 2 ^ d) : rne n d = 0 := by
  unfold rne
  rw [Nat.div_eq_of_lt (by omega), Nat.mod_eq_of_lt (by omega), if_neg (by omega)]

theorem cut_even (neg : Bool) (n d : Nat) : Toward.even.cut neg n d = rne n d := by
  unfold Toward.cut
  simp only [Nat.one_shiftLeft]
  rcases Nat.le_total d (n.log2 + 2) with h | h
  · rw [Nat.min_eq_left h]
    unfold rne
    congr 1
    by_cases h1 : 2 ^ d < 2 * (n % 2 ^ d)
    · simp [h1]
    · by_cases h2 : 2 ^ d = 2 * (n % 2 ^ d)
      · by_cases h3 : n / 2 ^ d % 2 = 1
        · rw [if_pos (Or.inr ⟨h2, h3⟩)]
          simp [← h2, h3]
        · rw [if_neg (by omega)]
          simp [← h2, h3]
      · rw [if_neg (by omega)]
        simp [h1, h2]
  · rw [Nat.min_eq_right h]
    have hn : n < 2 ^ (n.log2 + 1) := Nat.lt_log2_self
    have e1 : 2 ^ (n.log2 + 2) = 2 * 2 ^ (n.log2 + 1) := by rw [Nat.pow_succ]; omega
    have e2 : 2 ^ (n.log2 + 2) ≤ 2 ^ d := Nat.pow_le_pow_right (by omega) h
    rw [rne_small n d (by omega), Nat.div_eq_of_lt (by omega), Nat.mod_eq_of_lt (by omega)]
    have h1 : ¬ 2 ^ (n.log2 + 2) < 2 * n := by omega
    have h2 : ¬ 2 ^ (n.log2 + 2) = 2 * n := by omega
    have h3 : (2 ^ (n.log2 + 2) == 2 * n) = false := by simp only [beq_eq_false_iff_ne, ne_eq]; exact h2
    rw [h3]
    simp [h1]

theorem log2_lo {n : Nat} (h : n ≠ 0) : 2 ^ n.log2 ≤ n := Nat.log2_self_le h
theorem log2_hi (n : Nat) : n < 2 ^ (n.log2 + 1) := Nat.lt_log2_self

theorem rne_lo {n d : Nat} (h0 : n ≠ 0) (h : d ≤ n.log2) : 2 ^ (n.log2 - d) ≤ rne n d := by
  have h1 : 2 ^ (n.log2 - d) ≤ n / 2 ^ d := by
    rw [Nat.le_div_iff_mul_le (Nat.two_pow_pos d), ← Nat.pow_add, Nat.sub_add_cancel h]
    exact log2_lo h0
  unfold rne
  omega

theorem rne_hi {n d : Nat} (h : d ≤ n.log2 + 1) : rne n d ≤ 2 ^ (n.log2 + 1 - d) := by
  have h1 : n / 2 ^ d < 2 ^ (n.log2 + 1 - d) := by
    rw [Nat.div_lt_iff_lt_mul (Nat.two_pow_pos d), ← Nat.pow_add, Nat.sub_add_cancel h]
    exact log2_hi n
  unfold rne
  split <;> omega

theorem rne_far {n d : Nat} (h : n.log2 + 2 ≤ d) : rne n d = 0 := by
  apply rne_small
  have := log2_hi n
  have e2 : 2 ^ (n.log2 + 2) ≤ 2 ^ d := Nat.pow_le_pow_right (by omega) h
  rw [Nat.pow_succ] at e2
  omega

/-- Digits that are laid behind, all 0, have no part. -/
theorem rne_shift (n d k : Nat) : rne (n * 2 ^ k) (d + k) = rne n d := by
  unfold rne
  rw [Nat.pow_add, Nat.mul_div_mul_right _ _ (Nat.two_pow_pos k), Nat.mul_mod_mul_right]
  have hp := Nat.two_pow_pos k
  have e1 : (2 ^ d * 2 ^ k < 2 * (n % 2 ^ d * 2 ^ k)) ↔ 2 ^ d < 2 * (n % 2 ^ d) := by
    rw [← Nat.mul_assoc]; exact Nat.mul_lt_mul_right hp
  have e2 : (2 ^ d * 2 ^ k = 2 * (n % 2 ^ d * 2 ^ k)) ↔ 2 ^ d = 2 * (n % 2 ^ d) := by
    rw [← Nat.mul_assoc]; exact Nat.mul_left_inj (by omega)
  simp only [e1, e2]

/-- The last digit that is kept. -/
abbrev lastOf (f : Format) (m : Nat) (e : Int) : Int := max (e + m.log2 - f.fractionBits) f.leastPlace
/-- The rung of a number. -/
def rung (f : Format) (m : Nat) (e : Int) : Nat :=
  if m = 0 then 0 else min ((lastOf f m e - f.leastPlace).toNat * f.binade + rne (m * 2 ^ (e - lastOf f m e).toNat) (lastOf f m e - e).toNat) f.infRung

theorem nearest_rung (f : Format) (neg : Bool) (m : Nat) (e : Int) : f.nearest neg m e = f.word neg (rung f m e) := by
  unfold Format.nearest rung
  by_cases h : m = 0
  · rw [if_pos h, if_pos h]
  · rw [if_neg h, if_neg h]
    simp only [cut_even, Nat.shiftLeft_eq]

theorem rung_le (f : Format) (m : Nat) (e : Int) : rung f m e ≤ f.infRung := by
  unfold rung
  split
  · exact Nat.zero_le _
  · exact Nat.min_le_right _ _

theorem log2_mul_pow {n : Nat} (h : n ≠ 0) (k : Nat) : (n * 2 ^ k).log2 = n.log2 + k := by
  have hp := Nat.two_pow_pos k
  refine (Nat.log2_eq_iff (Nat.mul_ne_zero h (by omega))).2 ⟨?_, ?_⟩
  · rw [Nat.pow_add]; exact Nat.mul_le_mul_right _ (log2_lo h)
  · rw [show n.log2 + k + 1 = n.log2 + 1 + k by omega, Nat.pow_add]; exact Nat.mul_lt_mul_of_pos_right (log2_hi n) hp

/-- One number, said by another power. -/
theorem rung_shift (f : Format) (m k : Nat) (e : Int) : rung f (m * 2 ^ k) (e - k) = rung f m e := by
  unfold rung
  by_cases h : m = 0
  · subst h; simp
  · have hp := Nat.two_pow_pos k
    rw [if_neg h, if_neg (Nat.mul_ne_zero h (by omega))]
    have el : lastOf f (m * 2 ^ k) (e - k) = lastOf f m e := by
      unfold lastOf
      rw [log2_mul_pow h]
      congr 1
      omega
    rw [el]
    generalize lastOf f m e = l
    congr 2
    rcases Int.le_total e l with h1 | h1
    · rw [show (e - (k : Int) - l).toNat = 0 by omega, show (e - l).toNat = 0 by omega, show (l - (e - (k : Int))).toNat = (l - e).toNat + k by omega, Nat.pow_zero, Nat.mul_one, Nat.mul_one, rne_shift]
    · rw [show (l - e).toNat = 0 by omega, rne_zero]
      rcases Int.le_total (e - k) l with h2 | h2
      · rw [show (e - (k : Int) - l).toNat = 0 by omega, Nat.pow_zero, Nat.mul_one]
        have : k = (e - l).toNat + (l - (e - (k : Int))).toNat := by omega
        generalize (e - l).toNat = a at *
        generalize (l - (e - (k : Int))).toNat = b at *
        subst this
        have hs := rne_shift (m * 2 ^ a) 0 b
        rw [Nat.zero_add, rne_zero] at hs
        rw [Nat.pow_add, ← Nat.mul_assoc, hs]
      · rw [show (l - (e - (k : Int))).toNat = 0 by omega, rne_zero, Nat.mul_assoc, ← Nat.pow_add]
        congr 2
        omega

/-- What is left below is told by the last digit alone: n is h with t digits more behind it, not all 0 where it is jammed. -/
def jam (h : Nat) (some : Bool) : Nat := if some then h + (1 - h % 2) else h

theorem rne_jam (h t r d : Nat) (hr : r < 2 ^ t) (hd : 2 ≤ d) : rne (2 ^ t * h + r) (t + d) = rne (jam h (decide (r ≠ 0))) d := by
  have hp := Nat.two_pow_pos t
  obtain ⟨c, rfl⟩ : ∃ c, d = c + 2 := ⟨d - 2, by omega⟩
  have e4 : 2 ^ (c + 2) = 4 * 2 ^ c := by rw [Nat.pow_succ, Nat.pow_succ]; omega
  have q1 : (2 ^ t * h + r) / 2 ^ (t + (c + 2)) = h / 2 ^ (c + 2) := by
    rw [Nat.pow_add, ← Nat.div_div_eq_div_mul, Nat.mul_add_div hp, Nat.div_eq_of_lt hr, Nat.add_zero]
  have m1 : (2 ^ t * h + r) % 2 ^ (t + (c + 2)) = 2 ^ t * (h % 2 ^ (c + 2)) + r := by
    rw [Nat.pow_add, Nat.mod_mul, Nat.mul_add_mod, Nat.mod_eq_of_lt hr, Nat.mul_add_div hp, Nat.div_eq_of_lt hr, Nat.add_zero, Nat.add_comm]
  have hm : h % 2 ^ (c + 2) % 2 = h % 2 := by
    rw [e4, show 4 * 2 ^ c = 2 * (2 * 2 ^ c) by omega]; exact Nat.mod_mul_right_mod _ _ _
  have hlt : h % 2 ^ (c + 2) < 2 ^ (c + 2) := Nat.mod_lt _ (Nat.two_pow_pos _)
  have hdm : 2 ^ (c + 2) * (h / 2 ^ (c + 2)) + h % 2 ^ (c + 2) = h := Nat.div_add_mod _ _
  unfold rne
  rw [q1, m1]
  by_cases hz : r = 0
  · subst hz
    simp only [jam, Nat.add_zero, ne_eq, not_true, decide_false, Bool.false_eq_true, if_false]
    rw [Nat.pow_add 2 t (c + 2)]
    have e1 : (2 ^ t * 2 ^ (c + 2) < 2 * (2 ^ t * (h % 2 ^ (c + 2)))) ↔ 2 ^ (c + 2) < 2 * (h % 2 ^ (c + 2)) := by
      rw [Nat.mul_left_comm]; exact Nat.mul_lt_mul_left hp
    have e2 : (2 ^ t * 2 ^ (c + 2) = 2 * (2 ^ t * (h % 2 ^ (c + 2)))) ↔ 2 ^ (c + 2) = 2 * (h % 2 ^ (c + 2)) := by
      rw [Nat.mul_left_comm]; exact Nat.mul_right_inj (by omega)
    simp only [e1, e2]
  · have hs : decide (r ≠ 0) = true := by simpa using hz
    rw [hs]
    have hj : jam h true = 2 ^ (c + 2) * (h / 2 ^ (c + 2)) + (h % 2 ^ (c + 2) + (1 - h % 2 ^ (c + 2) % 2)) := by
      rw [hm]; simp only [jam, if_true]; omega
    generalize hH : h % 2 ^ (c + 2) = H at *
    generalize hQ : h / 2 ^ (c + 2) = Q at *
    have hev : 2 ^ (c + 2) % 2 = 0 := by omega
    have hlt2 : H + (1 - H % 2) < 2 ^ (c + 2) := by omega
    have q2 : jam h true / 2 ^ (c + 2) = Q := by
      rw [hj, Nat.mul_add_div (Nat.two_pow_pos _), Nat.div_eq_of_lt hlt2, Nat.add_zero]
    have m2 : jam h true % 2 ^ (c + 2) = H + (1 - H % 2) := by
      rw [hj, Nat.mul_add_mod, Nat.mod_eq_of_lt hlt2]
    rw [q2, m2]
    congr 1
    -- H against the half
    have hhalf : 2 ^ (c + 2) = 2 * (2 * 2 ^ c) := by omega
    rw [Nat.pow_add 2 t (c + 2)]
    generalize 2 ^ c = C at *
    rcases Nat.lt_or_ge H (2 * C) with g | g
    · have g1 : 2 ^ t * (H + 1) ≤ 2 ^ t * (2 * C) := Nat.mul_le_mul_left _ g
      have g2 : 2 ^ t * 2 ^ (c + 2) = 2 * (2 ^ t * (2 * C)) := by rw [hhalf]; exact Nat.mul_left_comm _ _ _
      rw [Nat.mul_add] at g1
      rw [if_neg (by omega), if_neg (by omega)]
    · have g1 : 2 ^ t * (2 * C) ≤ 2 ^ t * H := Nat.mul_le_mul_left _ g
      have g2 : 2 ^ t * 2 ^ (c + 2) = 2 * (2 ^ t * (2 * C)) := by rw [hhalf]; exact Nat.mul_left_comm _ _ _
      rw [if_pos (by omega), if_pos (by omega)]

theorem jam_log2 {h : Nat} (b : Bool) (h0 : h ≠ 0) : (jam h b).log2 = h.log2 := by
  unfold jam
  split
  · refine (Nat.log2_eq_iff (by omega)).2 ⟨?_, ?_⟩
    · have := log2_lo h0; omega
    · have := log2_hi h
      have : 2 ^ (h.log2 + 1) % 2 = 0 := by rw [Nat.pow_succ]; omega
      omega
  · rfl

theorem rung_jam (f : Format) (h t r : Nat) (e : Int) (hr : r < 2 ^ t) (hh : f.fractionBits + 2 ≤ h.log2) :
    rung f (2 ^ t * h + r) e = rung f (jam h (decide (r ≠ 0))) (e + t) := by
  have h0 : h ≠ 0 := by
    rintro rfl
    rw [Nat.log2_zero] at hh
    omega
  have hp := Nat.two_pow_pos t
  have hl : (2 ^ t * h + r).log2 = h.log2 + t := by
    have g1 : 2 ^ t * 1 ≤ 2 ^ t * h := Nat.mul_le_mul_left _ (by omega)
    refine (Nat.log2_eq_iff (by omega)).2 ⟨?_, ?_⟩
    · rw [Nat.pow_add, Nat.mul_comm]
      have := Nat.mul_le_mul_left (2 ^ t) (log2_lo h0)
      omega
    · have g2 : 2 ^ t * (h + 1) ≤ 2 ^ t * 2 ^ (h.log2 + 1) := Nat.mul_le_mul_left _ (log2_hi h)
      rw [Nat.mul_add] at g2
      rw [show h.log2 + t + 1 = t + (h.log2 + 1) by omega, Nat.pow_add]
      omega
  have n0 : 2 ^ t * h + r ≠ 0 := by
    have g1 : 2 ^ t * 1 ≤ 2 ^ t * h := Nat.mul_le_mul_left _ (by omega)
    omega
  have j0 : jam h (decide (r ≠ 0)) ≠ 0 := by unfold jam; split <;> omega
  unfold rung
  rw [if_neg n0, if_neg j0]
  have el : lastOf f (2 ^ t * h + r) e = lastOf f (jam h (decide (r ≠ 0))) (e + t) := by
    unfold lastOf
    rw [hl, jam_log2 _ h0]
    congr 1
    omega
  have eg : e + t + 2 ≤ lastOf f (jam h (decide (r ≠ 0))) (e + t) := by
    unfold lastOf
    rw [jam_log2 _ h0]
    omega
  rw [el]
  generalize lastOf f (jam h (decide (r ≠ 0))) (e + t) = l at *
  rw [show (e - l).toNat = 0 by omega, show (e + (t : Int) - l).toNat = 0 by omega, Nat.pow_zero, Nat.mul_one, Nat.mul_one, show (l - e).toNat = t + (l - (e + (t : Int))).toNat by omega, rne_jam h t r _ hr (by omega)]

/-- What is kept has its first digit, or the last place is the least one; and it has no more than its digits, or is the next power. -/
theorem kept_hi (f : Format) {m : Nat} (e : Int) (h0 : m ≠ 0) : rne (m * 2 ^ (e - lastOf f m e).toNat) (lastOf f m e - e).toNat ≤ 2 ^ (f.fractionBits + 1) := by
  have hl : e + m.log2 - f.fractionBits ≤ lastOf f m e := by unfold lastOf; omega
  generalize lastOf f m e = l at *
  rcases Int.le_total l e with h | h
  · rw [show (l - e).toNat = 0 by omega, rne_zero]
    have g := log2_hi (m * 2 ^ (e - l).toNat)
    rw [log2_mul_pow h0] at g
    exact Nat.le_of_lt (Nat.lt_of_lt_of_le g (Nat.pow_le_pow_right (by omega) (by omega)))
  · rw [show (e - l).toNat = 0 by omega, Nat.pow_zero, Nat.mul_one]
    rcases Nat.lt_or_ge (m.log2 + 1) (l - e).toNat with g | g
    · rw [rne_far (by omega)]; exact Nat.zero_le _
    · exact Nat.le_trans (rne_hi g) (Nat.pow_le_pow_right (by omega) (by omega))
theorem kept_lo (f : Format) {m : Nat} (e : Int) (h0 : m ≠ 0) : lastOf f m e = f.leastPlace ∨ 2 ^ f.fractionBits ≤ rne (m * 2 ^ (e - lastOf f m e).toNat) (lastOf f m e - e).toNat := by
  have hl : lastOf f m e = f.leastPlace ∨ lastOf f m e = e + m.log2 - f.fractionBits := by unfold lastOf; omega
  rcases hl with hl | hl
  · exact .inl hl
  · right
    rw [hl]
    generalize hk : f.fractionBits = k
    rcases Nat.le_total m.log2 k with h | h
    · rw [show (e + (m.log2 : Int) - (k : Int) - e).toNat = 0 by omega, rne_zero, show (e - (e + (m.log2 : Int) - (k : Int))).toNat = k - m.log2 by omega]
      have g := log2_lo (n := m * 2 ^ (k - m.log2)) (Nat.mul_ne_zero h0 (by have := Nat.two_pow_pos (k - m.log2); omega))
      rw [log2_mul_pow h0, show m.log2 + (k - m.log2) = k by omega] at g
      exact g
    · rw [show (e - (e + (m.log2 : Int) - (k : Int))).toNat = 0 by omega, Nat.pow_zero, Nat.mul_one, show (e + (m.log2 : Int) - (k : Int) - e).toNat = m.log2 - k by omega]
      have g := rne_lo h0 (show m.log2 - k ≤ m.log2 by omega)
      rwa [show m.log2 - (m.log2 - k) = k by omega] at g

def half : Format := { exponentBits := 5, fractionBits := 10 }
def brain : Format := { exponentBits := 8, fractionBits := 7 }
/-- The formats of this layer. -/
structure Nice (f : Format) : Prop where
  fr : f.fractionBits ≤ 23
  lo : -149 ≤ f.leastPlace
  hi : f.leastPlace ≤ 0
  inf : f.infRung ≤ 255 * f.binade
theorem nice_single : Nice single := ⟨by decide, by decide, by decide, by decide⟩
theorem nice_half : Nice half := ⟨by decide, by decide, by decide, by decide⟩
theorem nice_brain : Nice brain := ⟨by decide, by decide, by decide, by decide⟩

theorem log2_64 {m : Nat} (h : m < 18446744073709551616) : m.log2 ≤ 63 := by
  rcases Nat.eq_zero_or_pos m with rfl | h0
  · rw [Nat.log2_zero]; omega
  · have := (Nat.log2_lt (n := m) (k := 64) (by omega)).2 (by omega)
    omega

/-- Far up all is infinite, far down all is 0. -/
theorem rung_up {f : Format} (hf : Nice f) {m : Nat} {e : Int} (h0 : m ≠ 0) (he : 278 ≤ e) : rung f m e = f.infRung := by
  unfold rung
  rw [if_neg h0]
  have hl : e + m.log2 - f.fractionBits ≤ lastOf f m e := by unfold lastOf; omega
  have h1 := hf.fr
  have h2 := hf.hi
  have h3 := hf.inf
  generalize lastOf f m e = l at *
  apply Nat.min_eq_right
  have : 255 * f.binade ≤ (l - f.leastPlace).toNat * f.binade := Nat.mul_le_mul_right _ (by omega)
  omega
theorem rung_down {f : Format} (hf : Nice f) {m : Nat} {e : Int} (hm : m < 18446744073709551616) (he : e ≤ -240) : rung f m e = 0 := by
  unfold rung
  by_cases h0 : m = 0
  · rw [if_pos h0]
  · rw [if_neg h0]
    have hg := log2_64 hm
    have h1 := hf.lo
    have h2 := hf.hi
    have hl : lastOf f m e = f.leastPlace := by unfold lastOf; omega
    rw [hl, show (e - f.leastPlace).toNat = 0 by omega, Nat.pow_zero, Nat.mul_one, rne_far (by omega)]
    simp
theorem rung_clamp {f : Format} (hf : Nice f) {m : Nat} (e : Int) (h0 : m ≠ 0) (hm : m < 18446744073709551616) : rung f m (min (max e (-1024)) 1024) = rung f m e := by
  rcases Int.lt_or_le e (-1024) with h | h
  · rw [rung_down hf hm (by omega), rung_down hf hm (by omega)]
  · rcases Int.lt_or_le 1024 e with g | g
    · rw [rung_up hf h0 (by omega), rung_up hf h0 (by omega)]
    · rw [show min (max e (-1024)) 1024 = e by omega]

/-- What the document's 'near' says of a number. -/
def refRung (m : Nat) (e : Int) : Nat :=
  if m = 0 ∨ e < -400 then 0 else if 400 < e then 2139095040 else
  let to := max (e + (m.log2 + 1 : Nat) - 24) (-149)
  let q := rne (m * 2 ^ (e - to).toNat) (to - e).toNat
  if q = 16777216 then (if 255 ≤ to + 1 + 150 then 2139095040 else (to + 1 + 150).toNat * 8388608)
  else if q < 8388608 then q else if 255 ≤ to + 150 then 2139095040 else (to + 150).toNat * 8388608 + (q - 8388608)

theorem refRung_eq (m : Nat) (e : Int) (hm : m < 18446744073709551616) : refRung m e = rung single m e := by
  unfold refRung
  by_cases h0 : m = 0
  · rw [if_pos (.inl h0)]; unfold rung; rw [if_pos h0]
  by_cases h1 : e < -400
  · rw [if_pos (.inr h1), rung_down nice_single hm (by omega)]
  rw [if_neg (by omega)]
  by_cases h2 : 400 < e
  · rw [if_pos h2, rung_up nice_single h0 (by omega)]; rfl
  rw [if_neg h2]
  have hi := kept_hi single e h0
  have lo := kept_lo single e h0
  have el : max (e + ((m.log2 + 1 : Nat) : Int) - 24) (-149) = lastOf single m e := by
    show _ = max (e + m.log2 - (23 : Nat)) (-149)
    omega
  dsimp only
  rw [el]
  unfold rung
  rw [if_neg h0]
  have hl : -149 ≤ lastOf single m e := by rw [← el]; omega
  have c1 : single.leastPlace = -149 := rfl
  have c2 : single.binade = 8388608 := by decide
  have c3 : single.infRung = 2139095040 := by decide
  have c4 : single.fractionBits = 23 := rfl
  rw [c1, c2, c3]
  rw [c4] at hi lo
  rw [c1] at lo
  generalize rne (m * 2 ^ (e - lastOf single m e).toNat) (lastOf single m e - e).toNat = q at *
  generalize lastOf single m e = l at *
  clear el
  obtain ⟨k, rfl⟩ : ∃ k : Nat, l = (k : Int) - 149 := ⟨(l + 149).toNat, by omega⟩
  have lo' : k = 0 ∨ 8388608 ≤ q := lo.imp (fun h => by omega) id
  have hi' : q ≤ 16777216 := hi
  clear lo hi c1 c2 c3 c4 h0 h1 h2 hm hl
  rw [show ((k : Int) - 149 - -149).toNat = k by omega, show ((k : Int) - 149 + 150).toNat = k + 1 by omega, show ((k : Int) - 149 + 1 + 150).toNat = k + 2 by omega]
  by_cases g1 : q = 16777216
  · subst g1
    rw [if_pos rfl]
    by_cases g : 253 ≤ k
    · rw [if_pos (by omega), Nat.min_eq_right (by omega)]
    · rw [if_neg (by omega), Nat.min_eq_left (by omega)]; omega
  · rw [if_neg g1]
    by_cases g2 : q < 8388608
    · obtain rfl : k = 0 := by omega
      rw [if_pos g2, Nat.min_eq_left (by omega)]; omega
    · rw [if_neg g2]
      by_cases g : 254 ≤ k
      · rw [if_pos (by omega), Nat.min_eq_right (by omega)]
      · rw [if_neg (by omega), Nat.min_eq_left (by omega)]; omega

end Go.Proofs.YtmkaafnoanidpaaDoor
