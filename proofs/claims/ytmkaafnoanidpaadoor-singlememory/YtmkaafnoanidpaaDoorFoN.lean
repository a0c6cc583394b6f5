/-
  From one format to another, by whole numbers.
-/
import Derived.Test.YtmkaafnoanidpaaDoorPtN
namespace Go.Proofs.YtmkaafnoanidpaaDoor
open Ieee

theorem half_consts : half.signWeight = 32768 ∧ half.binade = 1024 ∧ half.infRung = 31744 ∧ half.leastPlace = -24 ∧ half.fractionBits = 10 := by decide
theorem brain_consts : brain.signWeight = 32768 ∧ brain.binade = 128 ∧ brain.infRung = 32640 ∧ brain.leastPlace = -133 ∧ brain.fractionBits = 7 := by decide

/-- The bits that stand for every none. -/
def noneOf (f : Format) : Nat := f.infRung + f.binade / 2
/-- A datum as bits of a format. -/
def conv (f : Format) : Datum → Nat
  | .nan .. => noneOf f
  | .infinity s => f.word s f.infRung
  | .number s m e => f.nearest s m e
/-- Parts as bits of a format. -/
def ofPt (f : Format) (p : Pt) : Nat := if p.kind = 2 then noneOf f else if p.kind = 1 then f.word p.neg f.infRung else f.nearest p.neg p.mant p.exp

theorem nearest_zero (f : Format) (s : Bool) (e : Int) : f.nearest s 0 e = f.word s 0 := by rw [nearest_rung]; unfold rung; rw [if_pos rfl]
/-- The parts of a datum make what the datum makes. -/
theorem ofPt_conv (f : Format) (d : Datum) (h : ∀ s m e, d = .number s m e → m < 4294967296) : ofPt f (ptOf d) = conv f d := by
  cases d with
  | nan s t => rfl
  | infinity s => rfl
  | number s m e =>
    have hm := h s m e rfl
    unfold ptOf
    by_cases h0 : m = 0
    · subst h0
      show f.nearest s 0 0 = f.nearest s 0 e
      rw [nearest_zero, nearest_zero]
    · dsimp only
      rw [if_neg h0]
      show f.nearest s (m / 2 ^ tz m) (e + tz m) = f.nearest s m e
      rw [nearest_rung, nearest_rung, rung_pt f m e h0 hm]

/-- The rung of a number that the format has is that number's. -/
theorem rung_low (f : Format) (r : Nat) (h : r < f.binade) (hi : r ≤ f.infRung) : rung f r f.leastPlace = r := by
  unfold rung
  by_cases h0 : r = 0
  · rw [if_pos h0, h0]
  · rw [if_neg h0]
    have hg : r.log2 < f.fractionBits := (Nat.log2_lt h0).2 h
    have el : lastOf f r f.leastPlace = f.leastPlace := by unfold lastOf; omega
    rw [el]
    simp only [Int.sub_self, Int.toNat_zero, Nat.pow_zero, Nat.mul_one, rne_zero, Nat.zero_mul, Nat.zero_add]
    exact Nat.min_eq_left hi
theorem rung_high (f : Format) (E F : Nat) (hE : 1 ≤ E) (hF : F < f.binade) (hi : E * f.binade + F ≤ f.infRung) : rung f (f.binade + F) (f.leastPlace + (E - 1 : Nat)) = E * f.binade + F := by
  have hb : 0 < f.binade := Nat.two_pow_pos _
  unfold rung
  rw [if_neg (by omega)]
  have hg : (f.binade + F).log2 = f.fractionBits := by
    refine (Nat.log2_eq_iff (by omega)).2 ⟨?_, ?_⟩
    · show f.binade ≤ _; omega
    · rw [Nat.pow_succ]; show f.binade + F < f.binade * 2; omega
  have el : lastOf f (f.binade + F) (f.leastPlace + (E - 1 : Nat)) = f.leastPlace + (E - 1 : Nat) := by
    unfold lastOf
    rw [hg]
    omega
  rw [el]
  simp only [Int.sub_self, Int.toNat_zero, Nat.pow_zero, Nat.mul_one, rne_zero]
  rw [show (f.leastPlace + ((E - 1 : Nat) : Int) - f.leastPlace).toNat = E - 1 by omega]
  have e : (E - 1) * f.binade + (f.binade + F) = E * f.binade + F := by
    obtain ⟨k, rfl⟩ : ∃ k, E = k + 1 := ⟨E - 1, by omega⟩
    rw [Nat.add_sub_cancel, Nat.add_mul, Nat.one_mul]
    omega
  rw [e]
  exact Nat.min_eq_left hi

/-- A datum of a format, by its rung. -/
theorem read_rung (f : Format) (b : Nat) : f.read b = (if b % f.signWeight < f.binade then .number (b / f.signWeight % 2 == 1) (b % f.signWeight) f.leastPlace
    else if b % f.signWeight < f.infRung then .number (b / f.signWeight % 2 == 1) (f.binade + b % f.signWeight % f.binade) (f.leastPlace + (b % f.signWeight / f.binade - 1 : Nat))
    else if b % f.signWeight = f.infRung then .infinity (b / f.signWeight % 2 == 1) else .nan (b / f.signWeight % 2 == 1) (b % f.signWeight - f.infRung)) := rfl

/-- A finite number of a format, turned to the same format, is it. -/
theorem rung_self (f : Format) {b : Nat} {s : Bool} {m : Nat} {e : Int} (hbi : f.binade ≤ f.infRung) (h : f.read b = .number s m e) : rung f m e = b % f.signWeight ∧ s = (b / f.signWeight % 2 == 1) ∧ b % f.signWeight < f.infRung := by
  rw [read_rung] at h
  generalize b % f.signWeight = r at *
  have hb : 0 < f.binade := Nat.two_pow_pos _
  split at h
  · rename_i h1
    cases h
    exact ⟨rung_low f _ h1 (by omega), rfl, by omega⟩
  · rename_i h1
    split at h
    · rename_i h2
      cases h
      have hE : 1 ≤ r / f.binade := by
        rw [Nat.le_div_iff_mul_le hb]; omega
      have hdm := Nat.div_add_mod r f.binade
      rw [Nat.mul_comm] at hdm
      have := rung_high f (r / f.binade) (r % f.binade) hE (Nat.mod_lt _ hb) (by omega)
      rw [hdm] at this
      exact ⟨this, rfl, h2⟩
    · split at h <;> cases h
theorem word_self (f : Format) (b : Nat) (hb : b < 2 * f.signWeight) : f.word (b / f.signWeight % 2 == 1) (b % f.signWeight) = b := by
  have hp : 0 < f.signWeight := Nat.two_pow_pos _
  have hdm := Nat.div_add_mod b f.signWeight
  have hq : b / f.signWeight < 2 := by rw [Nat.div_lt_iff_lt_mul hp]; omega
  unfold Format.word
  generalize b / f.signWeight = q at *
  have hc : q = 0 ∨ q = 1 := by omega
  rcases hc with h | h
  · rw [h] at hdm ⊢
    simp only [Nat.zero_mod, Nat.reduceBEq, Bool.false_eq_true, if_false]
    omega
  · rw [h] at hdm ⊢
    simp only [Nat.reduceMod, Nat.reduceBEq, if_true]
    omega

/-- Halves: the document's way to round. -/
theorem half_rung (m : Nat) (e : Int) (h0 : m ≠ 0) (l : Int) (q : Nat) (hl : l = max (e + (m.log2 + 1 : Nat) - 11) (-24)) (hq : q = rne (m * 2 ^ (e - l).toNat) (l - e).toNat) :
    q ≤ 2048 ∧ -24 ≤ l ∧ rung half m e = if q = 2048 then (if 5 < l + 1 then 31744 else (l + 1 + 25).toNat * 1024) else if q < 1024 then q else if 5 < l then 31744 else (l + 25).toNat * 1024 + (q - 1024) := by
  obtain ⟨c1, c2, c3, c4, c5⟩ := half_consts
  have el : lastOf half m e = l := by
    unfold lastOf
    rw [c4, c5]
    omega
  have hi := kept_hi half e h0
  have lo := kept_lo half e h0
  rw [el, ← hq, c5] at hi lo
  have hi' : q ≤ 2048 := hi
  have hl2 : -24 ≤ l := by omega
  refine ⟨hi', hl2, ?_⟩
  unfold rung
  rw [if_neg h0, el, ← hq, c2, c3, c4]
  rw [c4] at lo
  obtain ⟨k, rfl⟩ : ∃ k : Nat, l = (k : Int) - 24 := ⟨(l + 24).toNat, by omega⟩
  have lo' : k = 0 ∨ 1024 ≤ q := lo.imp (fun h => by omega) id
  clear lo hi hq hl el h0 c1 c2 c3 c4 c5 hl2
  rw [show ((k : Int) - 24 - -24).toNat = k by omega, show ((k : Int) - 24 + 25).toNat = k + 1 by omega, show ((k : Int) - 24 + 1 + 25).toNat = k + 2 by omega]
  by_cases g1 : q = 2048
  · subst g1
    rw [if_pos rfl]
    by_cases g : 29 ≤ k
    · rw [if_pos (by omega), Nat.min_eq_right (by omega)]
    · rw [if_neg (by omega), Nat.min_eq_left (by omega)]; omega
  · rw [if_neg g1]
    by_cases g2 : q < 1024
    · obtain rfl : k = 0 := by omega
      rw [if_pos g2, Nat.min_eq_left (by omega)]; omega
    · rw [if_neg g2]
      by_cases g : 30 ≤ k
      · rw [if_pos (by omega), Nat.min_eq_right (by omega)]
      · rw [if_neg (by omega), Nat.min_eq_left (by omega)]; omega

/-- Whole units ahead, an even number of them, have no part in rounding. -/
theorem rne_add (c n d : Nat) : rne (2 * c * 2 ^ d + n) d = 2 * c + rne n d := by
  have hp := Nat.two_pow_pos d
  unfold rne
  rw [show 2 * c * 2 ^ d + n = n + 2 ^ d * (2 * c) by rw [Nat.mul_comm]; omega, Nat.add_mul_div_left _ _ hp, Nat.add_mul_mod_self_left]
  have : (n / 2 ^ d + 2 * c) % 2 = n / 2 ^ d % 2 := by omega
  rw [this]
  omega

/-- Brains: the upper bits, rounded. -/
theorem brain_rung (b : Nat) (h : bE b ≠ 255) : rung brain (mt b) (ex b) = rne (b % 2147483648) 16 := by
  obtain ⟨c1, c2, c3, c4, c5⟩ := brain_consts
  rw [low_eq]
  have h1 := bE_lt b
  have h2 := bF_lt b
  unfold mt ex
  rw [if_neg h, if_neg h]
  generalize bE b = E at *
  generalize bF b = F at *
  have hr : ∀ n, n < 16777216 → rne n 16 ≤ 256 := fun n hn => by
    unfold rne
    split <;> omega
  by_cases h0 : E = 0
  · subst h0
    rw [if_pos rfl, if_pos rfl, Nat.zero_mul, Nat.zero_add]
    unfold rung
    by_cases hf : F = 0
    · rw [if_pos hf, hf]; rfl
    · rw [if_neg hf]
      have hg : F.log2 < 23 := (Nat.log2_lt hf).2 h2
      have el : lastOf brain F (-149) = -133 := by
        unfold lastOf
        rw [c4, c5]
        omega
      rw [el, c2, c3, c4, show ((-149 : Int) - -133).toNat = 0 by decide, show ((-133 : Int) - -149).toNat = 16 by decide, show ((-133 : Int) - -133).toNat = 0 by decide, Nat.pow_zero, Nat.mul_one, Nat.zero_mul, Nat.zero_add]
      have := hr F (by omega)
      exact Nat.min_eq_left (by omega)
  · rw [if_neg h0, if_neg h0]
    unfold rung
    rw [if_neg (by omega)]
    have hg : (8388608 + F).log2 = 23 := (Nat.log2_eq_iff (by omega)).2 ⟨by omega, by omega⟩
    have el : lastOf brain (8388608 + F) ((E : Int) - 150) = (E : Int) - 134 := by
      unfold lastOf
      rw [hg, c4, c5]
      omega
    rw [el, c2, c3, c4, show ((E : Int) - 150 - ((E : Int) - 134)).toNat = 0 by omega, show ((E : Int) - 134 - ((E : Int) - 150)).toNat = 16 by omega, show ((E : Int) - 134 - -133).toNat = E - 1 by omega, Nat.pow_zero, Nat.mul_one]
    have ha := rne_add ((E - 1) * 64) (8388608 + F) 16
    rw [show 2 * ((E - 1) * 64) * 2 ^ 16 + (8388608 + F) = E * 8388608 + F by omega] at ha
    rw [ha]
    have := hr (8388608 + F) (by omega)
    rw [Nat.min_eq_left (by omega)]
    omega

end Go.Proofs.YtmkaafnoanidpaaDoor
