/-
  How many ways to take k things of n.
-/
import Derived.Test.YtodomdgaoplhpabDoorNvN
namespace Go.Proofs.YtodomdgaoplhpabDoor

def ch : Nat → Nat → Nat
  | _, 0 => 1
  | 0, _ + 1 => 0
  | n + 1, k + 1 => ch n k + ch n (k + 1)
theorem ch_zero (n : Nat) : ch n 0 = 1 := by cases n <;> rfl
theorem ch_over : ∀ (n k : Nat), n < k → ch n k = 0
  | 0, 0, h => by omega
  | 0, k + 1, _ => rfl
  | n + 1, 0, h => by omega
  | n + 1, k + 1, h => by rw [ch, ch_over n k (by omega), ch_over n (k + 1) (by omega)]
/-- One more of one more. -/
theorem ch_up : ∀ (n k : Nat), (k + 1) * ch (n + 1) (k + 1) = (n + 1) * ch n k
  | 0, 0 => rfl
  | 0, k + 1 => by rw [ch_over 1 (k + 2) (by omega), ch_over 0 (k + 1) (by omega), Nat.mul_zero, Nat.mul_zero]
  | n + 1, 0 => by
    have h := ch_up n 0
    have e : ch (n + 2) 1 = ch (n + 1) 0 + ch (n + 1) 1 := rfl
    rw [ch_zero] at *
    simp only [Nat.zero_add, Nat.one_mul, Nat.mul_one] at *
    rw [e, h]
    omega
  | n + 1, k + 1 => by
    have h1 := ch_up n k
    have h2 := ch_up n (k + 1)
    have e : ch (n + 2) (k + 2) = ch (n + 1) (k + 1) + ch (n + 1) (k + 2) := rfl
    have e2 : ch (n + 1) (k + 1) = ch n k + ch n (k + 1) := rfl
    rw [e, Nat.mul_add, h2, show (k + 1 + 1) * ch (n + 1) (k + 1) = (k + 1) * ch (n + 1) (k + 1) + ch (n + 1) (k + 1) by rw [Nat.add_mul (k + 1) 1, Nat.one_mul], h1]
    rw [show (n + 1 + 1) * ch (n + 1) (k + 1) = (n + 1) * ch (n + 1) (k + 1) + ch (n + 1) (k + 1) by rw [Nat.add_mul (n + 1) 1, Nat.one_mul], e2, Nat.mul_add (n + 1)]
    omega
/-- One more of as many. -/
theorem ch_next (n k : Nat) (h : k ≤ n) : ch n k * (n - k) = (k + 1) * ch n (k + 1) := by
  have h1 := ch_up n k
  have e : ch (n + 1) (k + 1) = ch n k + ch n (k + 1) := rfl
  rw [e, Nat.mul_add] at h1
  have e2 : (n + 1) * ch n k = (k + 1) * ch n k + (n - k) * ch n k := by rw [← Nat.add_mul]; congr 1; omega
  rw [Nat.mul_comm]
  omega
theorem ch_le : ∀ (n k : Nat), ch n k ≤ 2 ^ n
  | n, 0 => by rw [ch_zero]; exact Nat.one_le_two_pow
  | 0, k + 1 => by simp [ch]
  | n + 1, k + 1 => by
    have h1 := ch_le n k
    have h2 := ch_le n (k + 1)
    rw [ch, Nat.pow_succ]
    omega
theorem ch_self : ∀ n, ch n n = 1
  | 0 => rfl
  | n + 1 => by rw [ch, ch_self n, ch_over n (n + 1) (by omega)]
theorem ch_sym : ∀ (n k : Nat), k ≤ n → ch n (n - k) = ch n k
  | n, 0, _ => by rw [Nat.sub_zero, ch_self, ch_zero]
  | 0, k + 1, h => by omega
  | n + 1, k + 1, h => by
    rcases Nat.lt_or_ge k n with c | c
    · obtain ⟨m, hm⟩ : ∃ m, n - k = m + 1 := ⟨n - k - 1, by omega⟩
      have h1 := ch_sym n k (by omega)
      have h2 := ch_sym n (k + 1) (by omega)
      rw [show n + 1 - (k + 1) = m + 1 by omega]
      rw [hm] at h1
      rw [show n - (k + 1) = m by omega] at h2
      rw [ch, ch, h1, h2, Nat.add_comm]
    · obtain rfl : k = n := by omega
      rw [Nat.sub_self, ch_zero, ch_self]
theorem ch_bl (n k : Nat) : bl (ch n k) ≤ n + 1 := bl_le (Nat.lt_of_le_of_lt (ch_le n k) (Nat.pow_lt_pow_right (by omega) (by omega)))
theorem ch_pos : ∀ (n k : Nat), k ≤ n → 0 < ch n k
  | n, 0, _ => by rw [ch_zero]; omega
  | 0, k + 1, h => by omega
  | n + 1, k + 1, h => by
    have := ch_pos n k (by omega)
    rw [ch]; omega

/-- The number that Choose tells. -/
def cV (n k : Int) : Nat := if n < 0 ∨ 4096 < n ∨ k < 0 then 0 else ch n.toNat k.toNat
def cE (n : Int) : Int := if n < 0 ∨ 4096 < n then 1 else 0
theorem cV_bl (n k : Int) : bl (cV n k) ≤ 4097 := by
  unfold cV
  split
  · simp [bl]
  · have := ch_bl n.toNat k.toNat
    omega
end Go.Proofs.YtodomdgaoplhpabDoor
