/-
  fixed.Add, the package's and the document's.
-/
import Derived.Test.YtjffiojjjmecgaaFwr
import Derived.Laws.Externs
namespace Go.Proofs.Ytjffiojjjmecgaa
open Go.RowKit

/-- A number, or none. -/
def inQ (T : Int) : Int := if -9223372036854775808 ≤ T ∧ T ≤ 9223372036854775807 then T else 0
def inB (T : Int) : Bool := decide (-9223372036854775808 ≤ T ∧ T ≤ 9223372036854775807)
theorem in_in {T : Int} (h : I64 T) : inQ T = T ∧ inB T = true := ⟨if_pos h, decide_eq_true h⟩
theorem in_out {T : Int} (h : ¬ I64 T) : inQ T = 0 ∧ inB T = false := ⟨if_neg h, decide_eq_false h⟩

set_option maxHeartbeats 400000 in
theorem add_any (a b : Int) (w : World) (ha : I64 a) (hb : I64 b) :
    Calls Try.prog 42 #[.int .i64 a, .int .i64 b] w fun e w' => e = .returned (.tuple #[.int .i64 (inQ (a + b)), .bool (inB (a + b))]) ∧ Drew w w' := by
  obtain ⟨a0, a1⟩ := ha
  obtain ⟨b0, b1⟩ := hb
  by_cases h : I64 (a + b)
  · obtain ⟨e1, e2⟩ := in_in h
    rw [e1, e2]
    obtain ⟨h0, h1⟩ := h
    have ht := sign_test a b (a + b) a0 a1 b0 b1 h0 h1
    have hdec : decide (bits .and .i64 (bits .xor .i64 a (a + b)) (bits .xor .i64 b (a + b)) < 0) = false := by
      rw [decide_eq_false_iff_not, ht]; omega
    clear ht e1 e2
    go_enter Try.func42, Try.ntmps42
    go_wp2
    go_ret2
    exact ⟨rfl, Drew.refl _⟩
  · obtain ⟨e1, e2⟩ := in_out h
    rw [e1, e2]
    obtain ⟨S, hS⟩ : ∃ S, wrap64 (a + b) = S := ⟨_, rfl⟩
    have hS2 : (a + b < 0 ∧ S = a + b + 18446744073709551616) ∨ (0 ≤ a + b ∧ S = a + b - 18446744073709551616) := by
      unfold I64 at h
      rw [← hS]; unfold wrap64; omega
    unfold I64 at h
    have ht := sign_test a b S a0 a1 b0 b1 (by omega) (by omega)
    have hdec : decide (bits .and .i64 (bits .xor .i64 a S) (bits .xor .i64 b S) < 0) = true := by
      rw [decide_eq_true_iff, ht]; omega
    clear ht e1 e2 hS2 h
    go_enter Try.func42, Try.ntmps42
    go_wp2
    go_ret2
    exact ⟨rfl, Drew.refl _⟩

theorem ret_pair {k : IntKind} {a b : Int} {c : Bool} (h : a = b) : Ending.returned (.tuple #[.int k a, .bool c]) = .returned (.tuple #[.int k b, .bool c]) := by rw [h]

set_option maxHeartbeats 800000 in
theorem refAdd_any (a b : Int) (w : World) (ha : I64 a) (hb : I64 b) :
    Calls Try.prog 43 #[.int .i64 a, .int .i64 b] w fun e w' => e = .returned (.tuple #[.int .i64 (inQ (a + b)), .bool (inB (a + b))]) ∧ Drew w w' := by
  obtain ⟨a0, a1⟩ := ha
  obtain ⟨b0, b1⟩ := hb
  by_cases h : I64 (a + b)
  · obtain ⟨e1, e2⟩ := in_in h
    rw [e1, e2]
    obtain ⟨h0, h1⟩ := h
    clear e1 e2
    by_cases hp : 0 < b
    · have hd : decide (9223372036854775807 - b < a) = false := by rw [decide_eq_false_iff_not]; omega
      go_enter Try.func43, Try.ntmps43
      go_wp2
      go_ret2
      exact ⟨rfl, Drew.refl _⟩
    · by_cases hn : b < 0
      · have hd : decide (a < -9223372036854775808 - b) = false := by rw [decide_eq_false_iff_not]; omega
        go_enter Try.func43, Try.ntmps43
        go_wp2
        go_ret2
        exact ⟨rfl, Drew.refl _⟩
      · obtain rfl : b = 0 := by omega
        go_enter Try.func43, Try.ntmps43
        go_wp2
        go_ret2
        exact ⟨ret_pair (by omega), Drew.refl _⟩
  · obtain ⟨e1, e2⟩ := in_out h
    rw [e1, e2]
    unfold I64 at h
    clear e1 e2
    by_cases hp : 0 < b
    · have hd : decide (9223372036854775807 - b < a) = true := by rw [decide_eq_true_iff]; omega
      clear h
      go_enter Try.func43, Try.ntmps43
      go_wp2
      go_ret2
      exact ⟨rfl, Drew.refl _⟩
    · have hn : b < 0 := by omega
      have hd : decide (a < -9223372036854775808 - b) = true := by rw [decide_eq_true_iff]; omega
      clear h
      go_enter Try.func43, Try.ntmps43
      go_wp2
      go_ret2
      exact ⟨rfl, Drew.refl _⟩

end Go.Proofs.Ytjffiojjjmecgaa
