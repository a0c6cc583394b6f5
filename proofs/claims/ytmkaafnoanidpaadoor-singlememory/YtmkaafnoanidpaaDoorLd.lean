/-
  math.Ldexp of a number that stays in the midst of the range: its exponent moves.
-/
import Derived.Test.YtmkaafnoanidpaaDoorQn
import Derived.Test.YtmkaafnoanidpaaDoorNum
import Derived.Test.YtmkaafnoanidpaaDoorSu
namespace Go.Proofs.YtmkaafnoanidpaaDoor
open Go.RowKit Ieee

theorem run_to64 (b : Nat) (w : World) : (callFunc 65 #[.float .f64 b]).run Tryd.prog w = .ok (.value (.int .u64 b)) w := by
  rw [run_callFunc_extern (e := Extern.MathFloatBits.float64bits) Tryd.func65 (by kernel_rfl) (by kernel_rfl) (by kernel_rfl) (by kernel_rfl)]
  rfl
theorem run_from64 (b : Nat) (w : World) : (callFunc 68 #[.int .u64 b]).run Tryd.prog w = .ok (.value (.float .f64 b)) w := by
  rw [run_callFunc_extern (e := Extern.MathFloatBits.float64frombits) Tryd.func68 (by kernel_rfl) (by kernel_rfl) (by kernel_rfl) (by kernel_rfl)]
  rfl

theorem andNot_u64 (a c : Nat) (ha : a < 18446744073709551616) (hc : c < 18446744073709551616) (d : Int) (hd : ~~~ (BitVec.ofInt 64 d) = BitVec.ofNat 64 c) : bits .andNot .u64 (a : Int) d = ((a &&& c : Nat) : Int) := by
  have hx : a &&& c < 2 ^ 64 := Nat.and_lt_two_pow _ (by omega)
  have h1 : (BitVec.ofInt 64 (a : Int)).toNat = a := by
    rw [BitVec.ofInt_natCast, BitVec.toNat_ofNat]; exact Nat.mod_eq_of_lt (by omega)
  have h2 : (BitVec.ofNat 64 c).toNat = c := by rw [BitVec.toNat_ofNat]; exact Nat.mod_eq_of_lt (by omega)
  show IntKind.u64.wrap ((BitVec.ofInt 64 (a : Int) &&& ~~~ (BitVec.ofInt 64 d)).toNat : Int) = _
  rw [hd, BitVec.toNat_and, h1, h2, IntKind.wrap_u64]
  omega
theorem andNot_sign (a : Nat) (ha : a < 18446744073709551616) : bits .andNot .u64 (a : Int) 9223372036854775808 = ((a % 9223372036854775808 : Nat) : Int) := by
  rw [andNot_u64 a 9223372036854775807 ha (by decide) _ (by decide), show (9223372036854775807 : Nat) = 2 ^ 63 - 1 from rfl, Nat.and_two_pow_sub_one_eq_mod]
theorem dbl_mod (s : Bool) {E F : Nat} (hE : E < 2048) (hF : F < 4503599627370496) : dbl s E F % 9223372036854775808 = dbl false E F := by
  unfold dbl
  cases s <;> simp only [Bool.false_eq_true, if_false, if_true] <;> omega
theorem dbl_clear (s : Bool) {E F : Nat} (hE : E < 2048) (hF : F < 4503599627370496) : bits .andNot .u64 (dbl s E F : Nat) 9218868437227405312 = (dbl s 0 F : Nat) := by
  rw [andNot_u64 _ 9227875636482146303 (dbl_lt s hE hF) (by decide) _ (by decide)]
  congr 1
  have hc : (9227875636482146303 : Nat) = 2 ^ 63 ||| (2 ^ 52 - 1) := by decide
  rw [hc, Nat.and_or_distrib_left, Nat.and_two_pow_sub_one_eq_mod]
  have h1 : dbl s E F % 2 ^ 52 = F := by unfold dbl; split <;> omega
  have h2 : dbl s E F &&& 2 ^ 63 = if s then 2 ^ 63 else 0 := by
    have ht := Nat.testBit_eq_decide_div_mod_eq (x := dbl s E F) (i := 63)
    have hd : dbl s E F / 2 ^ 63 % 2 = if s then 1 else 0 := by
      unfold dbl; cases s <;> simp only [Bool.false_eq_true, if_false, if_true] <;> omega
    rw [hd] at ht
    cases s
    · apply Nat.eq_of_testBit_eq
      intro i
      rw [Nat.testBit_and, Nat.testBit_two_pow]
      by_cases hi : 63 = i
      · subst hi; simp [ht]
      · simp [hi]
    · apply Nat.eq_of_testBit_eq
      intro i
      simp only [if_true]
      rw [Nat.testBit_and, Nat.testBit_two_pow]
      by_cases hi : 63 = i
      · subst hi; simp [ht]
      · simp [hi]
  rw [h1, h2]
  cases s
  · simp only [Bool.false_eq_true, if_false, Nat.zero_or]
    unfold dbl; simp
  · simp only [if_true]
    have := Nat.shiftLeft_add_eq_or_of_lt (i := 63) (b := F) (by omega) 1
    rw [Nat.shiftLeft_eq, Nat.one_mul] at this
    rw [← this]
    unfold dbl; simp
theorem dbl_or (s : Bool) {E F : Nat} (hE : E < 2048) (hF : F < 4503599627370496) : bits .or .u64 (dbl s 0 F : Nat) ((E * 4503599627370496 : Nat) : Int) = (dbl s E F : Nat) := by
  rw [bits_or_u64_nat _ _ (dbl_lt s (by decide) hF) (by omega)]
  congr 1
  obtain ⟨S, hS⟩ : ∃ S : Nat, S = if s then 2048 else 0 := ⟨_, rfl⟩
  have e0 : dbl s 0 F = S <<< 52 ||| F := by
    have := Nat.shiftLeft_add_eq_or_of_lt (i := 52) (b := F) (by omega) S
    rw [← this, Nat.shiftLeft_eq, hS]
    unfold dbl; cases s <;> simp
  have e1 : dbl s E F = (S + E) <<< 52 ||| F := by
    have := Nat.shiftLeft_add_eq_or_of_lt (i := 52) (b := F) (by omega) (S + E)
    rw [← this, Nat.shiftLeft_eq, hS]
    unfold dbl
    cases s
    · simp
    · simp only [if_true]; omega
  have e2 : S + E = S ||| E := by
    rw [hS]
    cases s
    · simp
    · simp only [if_true]
      have := Nat.shiftLeft_add_eq_or_of_lt (i := 11) (b := E) (by omega) 1
      rw [Nat.shiftLeft_eq, Nat.one_mul] at this
      exact this
  rw [e0, e1, e2, Nat.shiftLeft_or_distrib, show E * 4503599627370496 = E <<< 52 by rw [Nat.shiftLeft_eq], Nat.or_assoc, Nat.or_comm F, ← Nat.or_assoc]

/-- In the midst of the range. -/
def Mid (E F : Nat) : Prop := 600 ≤ E ∧ E ≤ 1400 ∧ F < 4503599627370496
theorem Mid.read {s : Bool} {E F : Nat} (h : Mid E F) : double.read (dbl s E F) = .number s (4503599627370496 + F) ((E : Int) - 1075) := dbl_read s E F (by have := h.1; omega) (by have := h.2.1; omega) h.2.2

theorem order_self {s : Bool} {E F : Nat} (h : Mid E F) : double.order (dbl s E F) (dbl s E F) = some .eq := by
  rw [order_number double h.read h.read ((E : Int) - 1075) (by omega) (by omega), compare_int, if_neg (by omega), if_pos rfl]
theorem order_zero {s : Bool} {E F : Nat} (h : Mid E F) : (double.order (dbl s E F) 0 == some .eq) = false := by
  have h0 : double.read 0 = .number false 0 (-1074) := by
    rw [read_rung]; rfl
  have hp := Nat.two_pow_pos ((E : Int) - 1075 - (-1074)).toNat
  have hm : 0 < (4503599627370496 + F) * 2 ^ ((E : Int) - 1075 - (-1074)).toNat := Nat.mul_pos (by omega) hp
  have hE := h.1
  rw [order_number double h.read h0 (-1074) (by omega) (by omega), compare_int]
  generalize (4503599627370496 + F) * 2 ^ ((E : Int) - 1075 - (-1074)).toNat = M at *
  cases s
  · simp only [Bool.false_eq_true, if_false, Nat.zero_mul]
    rw [if_neg (by omega), if_neg (by omega)]; rfl
  · simp only [Bool.false_eq_true, if_false, if_true, Nat.zero_mul]
    rw [if_pos (by omega)]; rfl
theorem order_max {E F : Nat} (h : Mid E F) : (double.order (dbl false E F) 9218868437227405311 == some .gt) = false := by
  have hE := h.1
  have hE2 := h.2.1
  have hF := h.2.2
  have h0 : double.read 9218868437227405311 = .number false (4503599627370496 + 4503599627370495) ((2046 : Int) - 1075) := dbl_read false 2046 4503599627370495 (by decide) (by decide) (by decide)
  rw [order_number double h.read h0 ((E : Int) - 1075) (by omega) (by omega), compare_int, Int.sub_self, Int.toNat_zero, Nat.pow_zero, Nat.mul_one]
  simp only [Bool.false_eq_true, if_false]
  have hp := Nat.pow_le_pow_right (show 0 < 2 by decide) (show 1 ≤ ((2046 : Int) - 1075 - ((E : Int) - 1075)).toNat by omega)
  generalize 2 ^ ((2046 : Int) - 1075 - ((E : Int) - 1075)).toNat = P at *
  have hge : (4503599627370496 + 4503599627370495) * 2 ^ 1 ≤ (4503599627370496 + 4503599627370495) * P := Nat.mul_le_mul_left _ hp
  rw [if_pos (by omega)]
  rfl
theorem order_small {E F : Nat} (h : Mid E F) : (double.order (dbl false E F) 4503599627370496 == some .lt) = false := by
  have hE := h.1
  have h0 : double.read 4503599627370496 = .number false (4503599627370496 + 0) ((1 : Int) - 1075) := dbl_read false 1 0 (by decide) (by decide) (by decide)
  rw [order_number double h.read h0 ((1 : Int) - 1075) (by omega) (by omega), compare_int, Int.sub_self, Int.toNat_zero, Nat.pow_zero, Nat.mul_one]
  simp only [Bool.false_eq_true, if_false]
  have hp := Nat.pow_le_pow_right (show 0 < 2 by decide) (show 1 ≤ ((E : Int) - 1075 - ((1 : Int) - 1075)).toNat by omega)
  generalize 2 ^ ((E : Int) - 1075 - ((1 : Int) - 1075)).toNat = P at *
  have hge : (4503599627370496 + F) * 2 ^ 1 ≤ (4503599627370496 + F) * P := Nat.mul_le_mul_left _ hp
  rw [if_neg (by omega)]
  split <;> rfl

set_option maxHeartbeats 400000 in
theorem abs64_any (s : Bool) (E F : Nat) (w : World) (h : Mid E F) :
    Calls Tryd.prog 69 #[.float .f64 (dbl s E F)] w fun e w' => e = .returned (.float .f64 (dbl false E F)) ∧ w = w' := by
  have hE := h.2.1
  have h1 := run_to64 (dbl s E F) w
  have h2 := run_from64 (dbl false E F) w
  have a1 := andNot_sign (dbl s E F) (dbl_lt s (by omega) h.2.2)
  rw [dbl_mod s (by omega) h.2.2] at a1
  generalize dbl s E F = x at *
  generalize dbl false E F = y at *
  clear h hE
  go_enter Tryd.func69, Tryd.ntmps69
  go_wp2
  go_ret
  exact ⟨rfl, rfl⟩

end Go.Proofs.YtmkaafnoanidpaaDoor
