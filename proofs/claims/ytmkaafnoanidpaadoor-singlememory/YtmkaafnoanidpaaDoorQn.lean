/-
  Numbers of 64 bits: those that a single is, and whole numbers; by whole numbers.
-/
import Derived.Test.YtmkaafnoanidpaaDoorFoN
import Derived.Test.YtmkaafnoanidpaaDoorSa
namespace Go.Proofs.YtmkaafnoanidpaaDoor
open Ieee

/-- The sign and the rung of a word. -/
theorem word_parts (f : Format) (s : Bool) {r : Nat} (h : r < f.signWeight) : (f.word s r / f.signWeight % 2 == 1) = s ∧ f.word s r % f.signWeight = r := by
  have hp : 0 < f.signWeight := Nat.two_pow_pos _
  unfold Format.word
  cases s
  · simp only [Bool.false_eq_true, if_false]
    rw [Nat.div_eq_of_lt h, Nat.mod_eq_of_lt h]
    exact ⟨rfl, rfl⟩
  · simp only [if_true]
    rw [Nat.add_div_left _ hp, Nat.div_eq_of_lt h, Nat.add_mod_left, Nat.mod_eq_of_lt h]
    exact ⟨rfl, rfl⟩
/-- What a word with an exponent stands for. -/
theorem read_high (f : Format) (s : Bool) (E F : Nat) (hE : 1 ≤ E) (hF : F < f.binade) (hi : E * f.binade + F < f.infRung) :
    f.read (f.word s (E * f.binade + F)) = .number s (f.binade + F) (f.leastPlace + (E - 1 : Nat)) := by
  have hb : 0 < f.binade := Nat.two_pow_pos _
  have hs := f.infRung_lt
  obtain ⟨p1, p2⟩ := word_parts f s (r := E * f.binade + F) (by omega)
  have hge : f.binade ≤ E * f.binade := Nat.le_mul_of_pos_left _ (by omega)
  rw [read_rung, p1, p2, if_neg (by omega), if_pos hi]
  have e1 : (E * f.binade + F) % f.binade = F := by rw [Nat.mul_comm, Nat.mul_add_mod, Nat.mod_eq_of_lt hF]
  have e2 : (E * f.binade + F) / f.binade = E := by rw [Nat.mul_comm, Nat.mul_add_div hb, Nat.div_eq_of_lt hF, Nat.add_zero]
  rw [e1, e2]

theorem dbl_consts : double.signWeight = 9223372036854775808 ∧ double.binade = 4503599627370496 ∧ double.infRung = 9218868437227405312 ∧ double.leastPlace = -1074 ∧ double.fractionBits = 52 := by decide
/-- A number of 64 bits by its sign, exponent and fraction. -/
def dbl (s : Bool) (E F : Nat) : Nat := (if s then 9223372036854775808 else 0) + (E * 4503599627370496 + F)
theorem dbl_word (s : Bool) (E F : Nat) : double.word s (E * 4503599627370496 + F) = dbl s E F := by
  unfold Format.word dbl
  rw [dbl_consts.1]
  cases s <;> simp
theorem dbl_lt (s : Bool) {E F : Nat} (hE : E < 2048) (hF : F < 4503599627370496) : dbl s E F < 18446744073709551616 := by
  unfold dbl
  split <;> omega
theorem dbl_read (s : Bool) (E F : Nat) (hE : 1 ≤ E) (hE2 : E ≤ 2046) (hF : F < 4503599627370496) : double.read (dbl s E F) = .number s (4503599627370496 + F) ((E : Int) - 1075) := by
  obtain ⟨c1, c2, c3, c4, c5⟩ := dbl_consts
  have := read_high double s E F hE (by rw [c2]; exact hF) (by rw [c2, c3]; omega)
  rw [c2, c4, dbl_word] at this
  rw [this]
  congr 1
  omega
/-- A number with at most 53 digits is one of 64 bits just so. -/
theorem dbl_nearest (s : Bool) (m : Nat) (e : Int) (h0 : m ≠ 0) (hm : m.log2 ≤ 52) (h1 : 1 ≤ e + m.log2 + 1023) (h2 : e + m.log2 + 1023 ≤ 2046) :
    ∃ (k E F : Nat), m.log2 + k = 52 ∧ (E : Int) = e + m.log2 + 1023 ∧ m * 2 ^ k = 4503599627370496 + F ∧ F < 4503599627370496 ∧ double.nearest s m e = dbl s E F := by
  obtain ⟨c1, c2, c3, c4, c5⟩ := dbl_consts
  obtain ⟨k, hk⟩ : ∃ k, m.log2 + k = 52 := ⟨52 - m.log2, by omega⟩
  obtain ⟨E, hE⟩ : ∃ E : Nat, (E : Int) = e + m.log2 + 1023 := ⟨(e + m.log2 + 1023).toNat, by omega⟩
  have hl := log2_mul_pow h0 k
  have hlo := log2_lo (n := m * 2 ^ k) (Nat.mul_ne_zero h0 (by have := Nat.two_pow_pos k; omega))
  have hhi := log2_hi (m * 2 ^ k)
  rw [hl, hk] at hlo hhi
  obtain ⟨F, hF⟩ : ∃ F, m * 2 ^ k = 4503599627370496 + F := ⟨m * 2 ^ k - 4503599627370496, by omega⟩
  have hF2 : F < 4503599627370496 := by omega
  refine ⟨k, E, F, hk, hE, hF, hF2, ?_⟩
  have hr : rung double m e = E * 4503599627370496 + F := by
    rw [← rung_shift double m k e, hF]
    have hh := rung_high double E F (by omega) (by rw [c2]; exact hF2) (by rw [c2, c3]; omega)
    rw [c2, c4] at hh
    rw [show e - (k : Int) = -1074 + ((E - 1 : Nat) : Int) by omega]
    exact hh
  rw [nearest_rung, hr, dbl_word]

/-- The order of two numbers, by whole numbers in one unit. -/
theorem order_number (f : Format) {x y : Nat} {s t : Bool} {m n : Nat} {i j : Int} (hx : f.read x = .number s m i) (hy : f.read y = .number t n j) (b : Int) (hi : b ≤ i) (hj : b ≤ j) :
    f.order x y = some (compare (if s then -((m * 2 ^ (i - b).toNat : Nat) : Int) else ((m * 2 ^ (i - b).toNat : Nat) : Int)) (if t then -((n * 2 ^ (j - b).toNat : Nat) : Int) else ((n * 2 ^ (j - b).toNat : Nat) : Int))) := by
  unfold Format.order
  rw [hx, hy]
  simp only [Datum.order, signed_eq]
  congr 1
  have hla : min i j ≤ i := by omega
  have hlb : min i j ≤ j := by omega
  have hbm : b ≤ min i j := by omega
  generalize min i j = c at *
  have key : ∀ (s : Bool) (m : Nat) (e : Int), c ≤ e → (if s then -((m * 2 ^ (e - b).toNat : Nat) : Int) else ((m * 2 ^ (e - b).toNat : Nat) : Int)) = (if s then -((m * 2 ^ (e - c).toNat : Nat) : Int) else ((m * 2 ^ (e - c).toNat : Nat) : Int)) * ((2 ^ (c - b).toNat : Nat) : Int) := by
    intro s m e he
    have : m * 2 ^ (e - b).toNat = m * 2 ^ (e - c).toNat * 2 ^ (c - b).toNat := by
      rw [Nat.mul_assoc, ← Nat.pow_add]
      congr 2
      omega
    rw [this]
    cases s
    · simp only [Bool.false_eq_true, if_false]; exact Int.natCast_mul _ _
    · simp only [if_true, Int.neg_mul]; rw [Int.natCast_mul (m * 2 ^ (e - c).toNat)]
  rw [key _ _ _ hla, key _ _ _ hlb, compare_scale _ _ _ (Nat.two_pow_pos _)]

end Go.Proofs.YtmkaafnoanidpaaDoor
