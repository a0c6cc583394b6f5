/-
  Mul, the package's and the document's; the sizes and signs under it.
-/
import Derived.Test.YtomlkdahinemmaaDoorFl
import Derived.Test.YtomlkdahinemmaaDoorShM
namespace Go.Proofs.YtomlkdahinemmaaDoor
open Go.RowKit

set_option maxHeartbeats 400000 in
theorem size_any (x : Int) (w : World) (hx : I64 x) :
    Calls Tryd.prog 34 #[.int .i64 x] w fun e w' => e = .returned (.int .u64 (x.natAbs : Nat)) ∧ w' = w := by
  obtain ⟨x0, x1⟩ := hx
  by_cases h : x < 0
  · obtain ⟨n, hn, rfl⟩ : ∃ n : Nat, 0 < n ∧ x = -(n : Int) := ⟨x.natAbs, by omega, by omega⟩
    have e1 : IntKind.u64.wrap (-(n : Int)) = 18446744073709551616 - (n : Int) := by rw [IntKind.wrap_u64]; omega
    have e2 : IntKind.u64.wrap (-(18446744073709551616 - (n : Int))) = (n : Int) := by rw [IntKind.wrap_u64]; omega
    have e3 : (-(n : Int)).natAbs = n := by omega
    rw [e3]
    go_enter Tryd.func34, Tryd.ntmps34
    go_wp2
    go_ret
    exact ⟨ret_int (by first | rfl | omega), rfl⟩
  · obtain ⟨n, rfl⟩ : ∃ n : Nat, x = (n : Int) := ⟨x.natAbs, by omega⟩
    have e3 : ((n : Int)).natAbs = n := by omega
    rw [e3]
    go_enter Tryd.func34, Tryd.ntmps34
    go_wp2
    go_ret
    exact ⟨rfl, rfl⟩

/-- Below 0 or not, if it is not 0. -/
def below (a b : Int) : Bool := decide (a < 0) != decide (b < 0)

set_option maxHeartbeats 400000 in
theorem product_any (a b : Int) (w : World) (ha : I64 a) (hb : I64 b) :
    Calls Tryd.prog 27 #[.int .i64 a, .int .i64 b] w fun e w' =>
      e = .returned (.tuple #[.bool (below a b), .int .u64 ((a.natAbs * b.natAbs / 18446744073709551616 : Nat) : Int), .int .u64 ((a.natAbs * b.natAbs % 18446744073709551616 : Nat) : Int)]) ∧ Drew w w' := by
  have sa := fun w => size_any a w ha
  have sb := fun w => size_any b w hb
  have hA : a.natAbs ≤ 9223372036854775808 := by have := ha.1; have := ha.2; omega
  have hB : b.natAbs ≤ 9223372036854775808 := by have := hb.1; have := hb.2; omega
  have hm := fun w => bits_Mul64 a.natAbs b.natAbs (by omega) (by omega) w
  have HB : Hid (below a b = (decide (a < 0) != decide (b < 0))) := rfl
  generalize below a b = B at *
  generalize a.natAbs = A at *
  generalize b.natAbs = C at *
  generalize A * C / 18446744073709551616 = Hi at *
  generalize A * C % 18446744073709551616 = Lo at *
  go_enter Tryd.func27, Tryd.ntmps27
  go_wp2_with fail
  refine (sa _).mono ?_
  rintro e w1 ⟨rfl, rfl⟩
  go_wp2_with fail
  refine (sb _).mono ?_
  rintro e w1 ⟨rfl, rfl⟩
  go_wp2_with fail
  refine (hm _).mono ?_
  rintro e w1 ⟨rfl, rfl⟩
  go_wp2
  go_ret3
  exact ⟨by rw [HB.out]; rfl, Drew.refl _⟩

/-- The number of that size. -/
def sgnQ (s : Bool) (n : Nat) : Int := if s then (if n ≤ 9223372036854775808 then -(n : Int) else 0) else (if n < 9223372036854775808 then (n : Int) else 0)
def sgnB (s : Bool) (n : Nat) : Bool := if s then decide (n ≤ 9223372036854775808) else decide (n < 9223372036854775808)

set_option maxHeartbeats 400000 in
theorem signed_any (s : Bool) (n : Nat) (w : World) (hn : n < 18446744073709551616) :
    Calls Tryd.prog 29 #[.bool s, .int .u64 n] w fun e w' => e = .returned (.tuple #[.int .i64 (sgnQ s n), .bool (sgnB s n)]) ∧ Drew w w' := by
  cases s with
  | true =>
    by_cases h : n ≤ 9223372036854775808
    · rw [show sgnQ true n = -(n : Int) by unfold sgnQ; rw [if_pos rfl, if_pos h], show sgnB true n = true by unfold sgnB; rw [if_pos rfl]; simp [h]]
      by_cases h0 : n = 0
      · subst h0
        go_enter Tryd.func29, Tryd.ntmps29
        go_wp2
        go_ret2
        exact ⟨rfl, Drew.refl _⟩
      · have e1 : IntKind.u64.wrap (-(n : Int)) = 18446744073709551616 - (n : Int) := by rw [IntKind.wrap_u64]; omega
        have e2 : wrap64 (18446744073709551616 - (n : Int)) = -(n : Int) := by unfold wrap64; omega
        go_enter Tryd.func29, Tryd.ntmps29
        go_wp2
        go_ret2
        exact ⟨congrArg (fun z => Ending.returned (.tuple #[.int .i64 z, .bool true])) e2, Drew.refl _⟩
    · have hdec : decide ((n : Int) ≤ 9223372036854775808) = false := by rw [decide_eq_false_iff_not]; omega
      rw [show sgnQ true n = 0 by unfold sgnQ; rw [if_pos rfl, if_neg h], show sgnB true n = false by unfold sgnB; rw [if_pos rfl]; simp [h]]
      go_enter Tryd.func29, Tryd.ntmps29
      go_wp2
      go_ret2
      exact ⟨rfl, Drew.refl _⟩
  | false =>
    by_cases h : n < 9223372036854775808
    · have hdec : decide ((n : Int) < 9223372036854775808) = true := by rw [decide_eq_true_iff]; omega
      rw [show sgnQ false n = (n : Int) by unfold sgnQ; rw [if_neg (by decide), if_pos h], show sgnB false n = true by unfold sgnB; rw [if_neg (by decide)]; simp [h]]
      go_enter Tryd.func29, Tryd.ntmps29
      go_wp2
      go_ret2
      exact ⟨rfl, Drew.refl _⟩
    · have hdec : decide ((n : Int) < 9223372036854775808) = false := by rw [decide_eq_false_iff_not]; omega
      rw [show sgnQ false n = 0 by unfold sgnQ; rw [if_neg (by decide), if_neg h], show sgnB false n = false by unfold sgnB; rw [if_neg (by decide)]; simp [h]]
      go_enter Tryd.func29, Tryd.ntmps29
      go_wp2
      go_ret2
      exact ⟨rfl, Drew.refl _⟩

/-- The product, or none. -/
def mulQ (a b : Int) : Int := if -9223372036854775808 ≤ a * b ∧ a * b ≤ 9223372036854775807 then a * b else 0
def mulB (a b : Int) : Bool := decide (-9223372036854775808 ≤ a * b ∧ a * b ≤ 9223372036854775807)

theorem mul_sign (a b : Int) : a * b = if below a b then -((a.natAbs * b.natAbs : Nat) : Int) else ((a.natAbs * b.natAbs : Nat) : Int) := by
  unfold below
  rcases Int.lt_or_le a 0 with h | h <;> rcases Int.lt_or_le b 0 with k | k
  · rw [show (decide (a < 0) != decide (b < 0)) = false by simp [h, k], if_neg (by decide)]
    obtain ⟨m, rfl⟩ : ∃ m : Nat, a = -(m : Int) := ⟨a.natAbs, by omega⟩
    obtain ⟨n, rfl⟩ : ∃ n : Nat, b = -(n : Int) := ⟨b.natAbs, by omega⟩
    rw [Int.natAbs_neg, Int.natAbs_neg, Int.natAbs_natCast, Int.natAbs_natCast, Int.neg_mul_neg, Int.natCast_mul]
  · rw [show (decide (a < 0) != decide (b < 0)) = true by simp [h, k], if_pos rfl]
    obtain ⟨m, rfl⟩ : ∃ m : Nat, a = -(m : Int) := ⟨a.natAbs, by omega⟩
    obtain ⟨n, rfl⟩ : ∃ n : Nat, b = (n : Int) := ⟨b.natAbs, by omega⟩
    rw [Int.natAbs_neg, Int.natAbs_natCast, Int.natAbs_natCast, Int.neg_mul, Int.natCast_mul]
  · rw [show (decide (a < 0) != decide (b < 0)) = true by simp [h, k], if_pos rfl]
    obtain ⟨m, rfl⟩ : ∃ m : Nat, a = (m : Int) := ⟨a.natAbs, by omega⟩
    obtain ⟨n, rfl⟩ : ∃ n : Nat, b = -(n : Int) := ⟨b.natAbs, by omega⟩
    rw [Int.natAbs_neg, Int.natAbs_natCast, Int.natAbs_natCast, Int.mul_neg, Int.natCast_mul]
  · rw [show (decide (a < 0) != decide (b < 0)) = false by simp [show ¬ a < 0 by omega, show ¬ b < 0 by omega], if_neg (by decide)]
    obtain ⟨m, rfl⟩ : ∃ m : Nat, a = (m : Int) := ⟨a.natAbs, by omega⟩
    obtain ⟨n, rfl⟩ : ∃ n : Nat, b = (n : Int) := ⟨b.natAbs, by omega⟩
    rw [Int.natAbs_natCast, Int.natAbs_natCast, Int.natCast_mul]

theorem mulQ_sgn (a b : Int) : mulQ a b = sgnQ (below a b) (a.natAbs * b.natAbs) ∧ mulB a b = sgnB (below a b) (a.natAbs * b.natAbs) := by
  have e := mul_sign a b
  unfold mulQ mulB sgnQ sgnB
  generalize a.natAbs * b.natAbs = N at *
  generalize a * b = p at *
  generalize below a b = B at *
  cases B with
  | false =>
    have e' : p = (N : Int) := e
    subst e'
    show (if -9223372036854775808 ≤ (N : Int) ∧ (N : Int) ≤ 9223372036854775807 then (N : Int) else 0) = (if N < 9223372036854775808 then (N : Int) else 0) ∧ decide (-9223372036854775808 ≤ (N : Int) ∧ (N : Int) ≤ 9223372036854775807) = decide (N < 9223372036854775808)
    by_cases c : N < 9223372036854775808
    · have c' : -9223372036854775808 ≤ (N : Int) ∧ (N : Int) ≤ 9223372036854775807 := by omega
      rw [if_pos c', if_pos c, decide_eq_true c, decide_eq_true c']
      exact ⟨rfl, rfl⟩
    · have c' : ¬ (-9223372036854775808 ≤ (N : Int) ∧ (N : Int) ≤ 9223372036854775807) := by omega
      rw [if_neg c', if_neg c, decide_eq_false c, decide_eq_false c']
      exact ⟨rfl, rfl⟩
  | true =>
    have e' : p = -(N : Int) := e
    subst e'
    show (if -9223372036854775808 ≤ -(N : Int) ∧ -(N : Int) ≤ 9223372036854775807 then -(N : Int) else 0) = (if N ≤ 9223372036854775808 then -(N : Int) else 0) ∧ decide (-9223372036854775808 ≤ -(N : Int) ∧ -(N : Int) ≤ 9223372036854775807) = decide (N ≤ 9223372036854775808)
    by_cases c : N ≤ 9223372036854775808
    · have c' : -9223372036854775808 ≤ -(N : Int) ∧ -(N : Int) ≤ 9223372036854775807 := by omega
      rw [if_pos c', if_pos c, decide_eq_true c, decide_eq_true c']
      exact ⟨rfl, rfl⟩
    · have c' : ¬ (-9223372036854775808 ≤ -(N : Int) ∧ -(N : Int) ≤ 9223372036854775807) := by omega
      rw [if_neg c', if_neg c, decide_eq_false c, decide_eq_false c']
      exact ⟨rfl, rfl⟩
theorem mulQ_far (a b : Int) (h : 18446744073709551616 ≤ a.natAbs * b.natAbs) : mulQ a b = 0 ∧ mulB a b = false := by
  have e := mul_sign a b
  unfold mulQ mulB
  have hn : ¬ (-9223372036854775808 ≤ a * b ∧ a * b ≤ 9223372036854775807) := by
    rw [e]
    split <;> omega
  rw [if_neg hn]
  exact ⟨rfl, decide_eq_false hn⟩

set_option maxHeartbeats 400000 in
theorem mul_any (a b : Int) (w : World) (ha : I64 a) (hb : I64 b) :
    Calls Tryd.prog 32 #[.int .i64 a, .int .i64 b] w fun e w' => e = .returned (.tuple #[.int .i64 (mulQ a b), .bool (mulB a b)]) ∧ Drew w w' := by
  have hp := fun w => product_any a b w ha hb
  by_cases h : a.natAbs * b.natAbs < 18446744073709551616
  · obtain ⟨e1, e2⟩ := mulQ_sgn a b
    rw [e1, e2]
    have hs := fun w => signed_any (below a b) (a.natAbs * b.natAbs) w h
    rw [Nat.div_eq_of_lt h, Nat.mod_eq_of_lt h] at hp
    generalize below a b = B at *
    generalize a.natAbs * b.natAbs = N at *
    rw [show ((0 : Nat) : Int) = 0 from rfl] at hp
    go_enter Tryd.func32, Tryd.ntmps32
    go_wp2_with fail
    refine (hp _).mono ?_
    rintro e w1 ⟨rfl, h1⟩
    go_wp2_with fail
    refine (hs _).mono ?_
    rintro e w2 ⟨rfl, h2⟩
    go_wp2
    go_ret2
    exact ⟨rfl, h1.trans h2⟩
  · obtain ⟨e1, e2⟩ := mulQ_far a b (by omega)
    rw [e1, e2]
    have hq : 0 < a.natAbs * b.natAbs / 18446744073709551616 := Nat.div_pos (by omega) (by omega)
    generalize below a b = B at *
    generalize a.natAbs * b.natAbs / 18446744073709551616 = Hi at *
    generalize a.natAbs * b.natAbs % 18446744073709551616 = Lo at *
    go_enter Tryd.func32, Tryd.ntmps32
    go_wp2_with fail
    refine (hp _).mono ?_
    rintro e w1 ⟨rfl, h1⟩
    go_wp2
    go_ret2
    exact ⟨rfl, h1⟩
end Go.Proofs.YtomlkdahinemmaaDoor
