/-
  Two digits of a long division put together (for math/bits.Div64).
-/
import Derived.Test.YtdmjfmipalifpaaGreatDoorDvN
namespace Go.Proofs.YtdmjfmipalifpaaGreatDoor

/-- Both words shifted. -/
theorem dv_shift {hi lo S T : Nat} (hST : S * T = 18446744073709551616) :
    lo * S % 18446744073709551616 = lo % T * S ∧ (hi * S + lo / T) * 18446744073709551616 + lo % T * S = (hi * 18446744073709551616 + lo) * S := by
  have hT : 0 < T := by
    rcases Nat.eq_zero_or_pos T with e | e
    · subst e; simp at hST
    · exact e
  have hS : 0 < S := by
    rcases Nat.eq_zero_or_pos S with e | e
    · subst e; simp at hST
    · exact e
  have hd := Nat.div_add_mod lo T
  have hm := Nat.mod_lt lo hT
  have h1 : lo * S = 18446744073709551616 * (lo / T) + lo % T * S := by
    have e : lo * S = (T * (lo / T) + lo % T) * S := by rw [hd]
    rw [e, Nat.add_mul, ← hST]
    congr 1
    rw [Nat.mul_comm (T * (lo / T)) S, Nat.mul_assoc]
  have h2 : lo % T * S < 18446744073709551616 := by
    rw [← hST, Nat.mul_comm]
    exact Nat.mul_lt_mul_of_pos_left hm hS
  constructor
  · rw [h1, Nat.mul_add_mod, Nat.mod_eq_of_lt h2]
  · rw [Nat.add_mul (hi * 18446744073709551616) lo S, h1, Nat.add_mul, Nat.mul_right_comm hi 18446744073709551616 S]
    generalize lo % T * S = A at *
    generalize lo / T = C at *
    generalize hi * S = E at *
    omega

/-- The quotient and the rest of two digits. -/
theorem dv_two {u n1 n0 Y q1 q0 r1 r0 : Nat} (m0 : r0 < Y) (d1 : Y * q1 + r1 = u * 4294967296 + n1) (d0 : Y * q0 + r0 = r1 * 4294967296 + n0) :
    (u * 18446744073709551616 + (n1 * 4294967296 + n0)) / Y = q1 * 4294967296 + q0 ∧ (u * 18446744073709551616 + (n1 * 4294967296 + n0)) % Y = r0 := by
  have hY : 0 < Y := by omega
  have e : u * 18446744073709551616 + (n1 * 4294967296 + n0) = Y * (q1 * 4294967296 + q0) + r0 := by
    rw [Nat.mul_add, ← Nat.mul_assoc]
    generalize Y * q1 = A at *
    generalize Y * q0 = C at *
    omega
  rw [e]
  exact ⟨by rw [Nat.mul_add_div hY, Nat.div_eq_of_lt m0, Nat.add_zero], by rw [Nat.mul_add_mod, Nat.mod_eq_of_lt m0]⟩

/-- The shift taken back. -/
theorem dv_back {U y S : Nat} (hS : 0 < S) : U * S / (y * S) = U / y ∧ U * S % (y * S) / S = U % y := by
  exact ⟨Nat.mul_div_mul_right _ _ hS, by rw [Nat.mul_mod_mul_right, Nat.mul_div_cancel _ hS]⟩

/-- One step of the loop: the estimate is too great. -/
theorem dv_next {u n y y1 y0 q r : Nat} (hy : y = y1 * 4294967296 + y0) (hq : q * y1 + r = u) (hu : u < y) (hn : n < 4294967296) (t : 4294967296 ≤ q ∨ 4294967296 * r + n < q * y0) :
    ∃ q', q = q' + 1 ∧ q' * y1 + (r + y1) = u ∧ (u * 4294967296 + n) / y ≤ q' := by
  have hlt : (u * 4294967296 + n) / y < q := by
    rcases t with t | t
    · exact Nat.lt_of_lt_of_le (dv_lt hu hn) t
    · rw [Nat.div_lt_iff_lt_mul (by omega)]
      have := (not_congr (dv_test (n := n) hy hq)).2 (by omega)
      omega
  have hpos : 0 < q := Nat.lt_of_le_of_lt (Nat.zero_le _) hlt
  obtain ⟨q', rfl⟩ : ∃ q', q = q' + 1 := ⟨q - 1, by omega⟩
  refine ⟨q', rfl, ?_, Nat.le_of_lt_succ hlt⟩
  rw [Nat.add_mul] at hq
  omega
theorem dv_stop {u n y y1 y0 q r : Nat} (hy : y = y1 * 4294967296 + y0) (hq : q * y1 + r = u) (hu : u < y) (h : (u * 4294967296 + n) / y ≤ q) (t : q * y0 ≤ 4294967296 * r + n) : q = (u * 4294967296 + n) / y :=
  dv_eq (by omega) h ((dv_test hy hq).2 t)
theorem dv_brk {u n y y1 y0 q r : Nat} (hy : y = y1 * 4294967296 + y0) (hq : q * y1 + r = u) (hu : u < y) (h : (u * 4294967296 + n) / y ≤ q) (h0 : y0 < 4294967296) (hb : q ≤ 4294967296) (hr : 4294967296 ≤ r) : q = (u * 4294967296 + n) / y :=
  dv_stop hy hq hu h (dv_break hb h0 hr)
end Go.Proofs.YtdmjfmipalifpaaGreatDoor
