/-
  The numbers of layer 2: bits of an int64, quotients, roots.
-/
import Derived.WalkKit
import Derived.WalkSpells
import Derived.WalkLawsBesides
import Derived.Laws.Bits64b
namespace Go.Proofs.YtbppahmcjifflaaDoor
open Go.RowKit

theorem ofInt64_nat (a : Int) : ((BitVec.ofInt 64 a).toNat : Int) = a % 18446744073709551616 := by
  rw [BitVec.toNat_ofInt]
  have : 0 ≤ a % ((2 ^ 64 : Nat) : Int) := Int.emod_nonneg _ (by decide)
  rw [Int.toNat_of_nonneg this]
  rfl

/-- The lowest bits of an int64. -/
theorem and_mask (x : Int) (k : Nat) (hk : k ≤ 62) : bits .and .i64 x ((2 ^ k - 1 : Nat) : Int) = x % ((2 ^ k : Nat) : Int) := by
  have hp : 2 ^ k ≤ 2 ^ 62 := Nat.pow_le_pow_right (by omega) hk
  have h1 := ofInt64_nat x
  have h2 : (BitVec.ofInt 64 ((2 ^ k - 1 : Nat) : Int)).toNat = 2 ^ k - 1 := by
    rw [BitVec.ofInt_natCast, BitVec.toNat_ofNat]; exact Nat.mod_eq_of_lt (by omega)
  show IntKind.i64.wrap ((BitVec.ofInt 64 x &&& BitVec.ofInt 64 ((2 ^ k - 1 : Nat) : Int)).toNat : Int) = _
  rw [BitVec.toNat_and, h2, Nat.and_two_pow_sub_one_eq_mod, IntKind.wrap_i64]
  have hm : (BitVec.ofInt 64 x).toNat % 2 ^ k < 2 ^ k := Nat.mod_lt _ (Nat.pos_of_ne_zero (by simp))
  have e : ((BitVec.ofInt 64 x).toNat % 2 ^ k : Nat) = x % ((2 ^ k : Nat) : Int) := by
    rw [Int.natCast_emod, h1]
    apply Int.emod_emod_of_dvd
    refine ⟨((2 ^ (64 - k) : Nat) : Int), ?_⟩
    rw [← Int.natCast_mul, ← Nat.pow_add, show k + (64 - k) = 64 by omega]
    rfl
  rw [← e]
  omega
theorem and_one (x : Int) : bits .and .i64 x 1 = x % 2 := and_mask x 1 (by omega)
theorem and_16 (x : Int) : bits .and .i64 x 65535 = x % 65536 := and_mask x 16 (by omega)

/-- The sign of bits. -/
theorem neg_wrap (v : BitVec 64) : (IntKind.i64.wrap (v.toNat : Int) < 0) ↔ v.msb = true := by
  rw [IntKind.wrap_i64, BitVec.msb_eq_decide]
  have := v.isLt
  simp only [decide_eq_true_eq]
  omega
theorem msb_ofInt (a : Int) (h0 : -9223372036854775808 ≤ a) (h1 : a ≤ 9223372036854775807) : (BitVec.ofInt 64 a).msb = decide (a < 0) := by
  rw [BitVec.msb_eq_decide]
  have := ofInt64_nat a
  congr 1
  apply propext
  omega
theorem ofInt_wrap (v : BitVec 64) : BitVec.ofInt 64 (IntKind.i64.wrap (v.toNat : Int)) = v := by
  apply BitVec.eq_of_toNat_eq
  have h := ofInt64_nat (IntKind.i64.wrap (v.toNat : Int))
  rw [IntKind.wrap_i64] at h ⊢
  have := v.isLt
  omega
/-- A sum wraps just where both have one sign and it has the other. -/
theorem sign_test (a b s : Int) (a0 : -9223372036854775808 ≤ a) (a1 : a ≤ 9223372036854775807) (b0 : -9223372036854775808 ≤ b) (b1 : b ≤ 9223372036854775807) (s0 : -9223372036854775808 ≤ s) (s1 : s ≤ 9223372036854775807) :
    bits .and .i64 (bits .xor .i64 a s) (bits .xor .i64 b s) < 0 ↔ ((a < 0) ∧ ¬ (s < 0) ∧ b < 0) ∨ (¬ (a < 0) ∧ (s < 0) ∧ ¬ b < 0) := by
  show IntKind.i64.wrap ((BitVec.ofInt 64 (IntKind.i64.wrap ((BitVec.ofInt 64 a ^^^ BitVec.ofInt 64 s).toNat : Int)) &&& BitVec.ofInt 64 (IntKind.i64.wrap ((BitVec.ofInt 64 b ^^^ BitVec.ofInt 64 s).toNat : Int))).toNat : Int) < 0 ↔ _
  rw [neg_wrap, ofInt_wrap, ofInt_wrap, BitVec.msb_and, BitVec.msb_xor, BitVec.msb_xor, msb_ofInt a a0 a1, msb_ofInt b b0 b1, msb_ofInt s s0 s1]
  by_cases ha : a < 0 <;> by_cases hb : b < 0 <;> by_cases hs : s < 0 <;> simp [ha, hb, hs]

theorem tmod_bounds (x d : Int) (hd : 1 ≤ d) : -d < x.tmod d ∧ x.tmod d < d := by
  refine ⟨?_, Int.tmod_lt_of_pos x (by omega)⟩
  rw [← Int.tmod_neg]
  by_cases hx : 0 ≤ x
  · have := Int.tmod_nonneg (a := x) (-d) hx; omega
  · have h := Int.tmod_lt_of_pos (-x) (b := d) (by omega)
    rw [Int.neg_tmod] at h
    rw [Int.tmod_neg]; omega

/-- The language cuts towards 0. -/
theorem tdiv_floor (x d : Int) (hd : 1 ≤ d) : (x.tmod d < 0 → x.tdiv d - 1 = x / d ∧ x.tmod d + d = x % d) ∧ (0 ≤ x.tmod d → x.tdiv d = x / d ∧ x.tmod d = x % d) := by
  have e1 := Int.mul_tdiv_add_tmod x d
  have e2 := Int.mul_ediv_add_emod x d
  have b1 : 0 ≤ x % d := Int.emod_nonneg _ (by omega)
  have b2 : x % d < d := Int.emod_lt_of_pos _ (by omega)
  have key : ∀ q r : Int, d * q + r = x → 0 ≤ r → r < d → q = x / d ∧ r = x % d := fun q r h h0 h1 => by
    have := Int.ediv_emod_unique (a := x) (b := d) (r := r) (q := q) (by omega)
    obtain ⟨h2, h3⟩ := this.2 ⟨by rw [Int.add_comm]; exact h, h0, h1⟩
    exact ⟨h2.symm, h3.symm⟩
  obtain ⟨t0, t1⟩ := tmod_bounds x d hd
  refine ⟨fun h => key _ _ (by rw [Int.mul_sub]; omega) (by omega) (by omega), fun h => key _ _ e1 h t1⟩

theorem ediv_bounds (x d : Int) (hd : 1 ≤ d) (x0 : -9223372036854775808 ≤ x) (x1 : x ≤ 9223372036854775807) : -9223372036854775808 ≤ x / d ∧ x / d ≤ 9223372036854775807 := by
  constructor
  · rw [Int.le_ediv_iff_mul_le (by omega)]
    have := Int.mul_le_mul_of_nonneg_left hd (show (0 : Int) ≤ 9223372036854775808 by omega)
    rw [Int.neg_mul]
    omega
  · have : x / d < 9223372036854775808 := by
      rw [Int.ediv_lt_iff_lt_mul (by omega)]
      have := Int.mul_le_mul_of_nonneg_left hd (show (0 : Int) ≤ 9223372036854775808 by omega)
      omega
    omega
theorem tmod_two (q : Int) : q.tmod 2 = 0 ↔ q % 2 = 0 := by
  rw [← Int.dvd_iff_emod_eq_zero, Int.dvd_iff_tmod_eq_zero]
theorem tmod_two_ne (q : Int) : (q.tmod 2 != 0) = !decide (q % 2 = 0) := by
  by_cases h : q % 2 = 0
  · simp [h, (tmod_two q).2 h]
  · have : q.tmod 2 ≠ 0 := fun e => h ((tmod_two q).1 e)
    simp [h, this]
end Go.Proofs.YtbppahmcjifflaaDoor
