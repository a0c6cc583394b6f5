/-
  One digit of a long division: what the estimate is worth (for math/bits.Div64).
-/
import Derived.WalkKit
namespace Go.Proofs.YtdmjfmipalifpaaGreatDoor

/-- q1 is not too great just where the test of the division says so. -/
theorem dv_test {u n y y1 y0 q1 r : Nat} (hy : y = y1 * 4294967296 + y0) (hq : q1 * y1 + r = u) :
    q1 * y ≤ u * 4294967296 + n ↔ q1 * y0 ≤ 4294967296 * r + n := by
  have e : q1 * y = q1 * y1 * 4294967296 + q1 * y0 := by rw [hy, Nat.mul_add, Nat.mul_assoc]
  rw [e, ← hq]
  generalize q1 * y1 = A
  generalize q1 * y0 = B
  omega

/-- The first estimate is not too small. -/
theorem dv_ge {u n y y1 y0 : Nat} (hy : y = y1 * 4294967296 + y0) (h1 : 0 < y1) (hn : n < 4294967296) : (u * 4294967296 + n) / y ≤ u / y1 := by
  rw [Nat.le_div_iff_mul_le h1]
  have h := Nat.div_mul_le_self (u * 4294967296 + n) y
  generalize (u * 4294967296 + n) / y = q at *
  have e : q * y = q * y1 * 4294967296 + q * y0 := by rw [hy, Nat.mul_add, Nat.mul_assoc]
  rw [e] at h
  generalize q * y1 = A at *
  generalize q * y0 = B at *
  omega

/-- The quotient is one digit. -/
theorem dv_lt {u n y : Nat} (hu : u < y) (hn : n < 4294967296) : (u * 4294967296 + n) / y < 4294967296 := by
  rw [Nat.div_lt_iff_lt_mul (by omega)]
  have := Nat.mul_le_mul_right 4294967296 (show u + 1 ≤ y by omega)
  omega

/-- The first estimate is at most two too great. -/
theorem dv_top {u y y1 y0 : Nat} (hy : y = y1 * 4294967296 + y0) (h0 : y0 < 4294967296) (h1 : 2147483648 ≤ y1) (hu : u < y) : u / y1 ≤ 4294967297 := by
  have : u / y1 < 4294967298 := by
    rw [Nat.div_lt_iff_lt_mul (by omega)]
    omega
  omega

/-- q1 is the quotient where it is not too great and not too small. -/
theorem dv_eq {N y q1 : Nat} (hy : 0 < y) (h1 : N / y ≤ q1) (h2 : q1 * y ≤ N) : q1 = N / y := by
  have := (Nat.le_div_iff_mul_le hy).2 h2
  omega

/-- Behind a step down with a rest of a digit and more q1 is not too great. -/
theorem dv_break {q1 y0 r n : Nat} (hq : q1 ≤ 4294967296) (h0 : y0 < 4294967296) (hr : 4294967296 ≤ r) : q1 * y0 ≤ 4294967296 * r + n := by
  have h := Nat.mul_le_mul hq (show y0 ≤ 4294967295 by omega)
  omega
end Go.Proofs.YtdmjfmipalifpaaGreatDoor
