/-
  Numbers over 2^n.
-/
import Derived.Test.YtdmjfmipalifpaaGreatDoorUpb
import Derived.Test.YtdmjfmipalifpaaGreatDoorDna
import Derived.Test.YtdmjfmipalifpaaGreatDoorLkc
namespace Go.Proofs.YtdmjfmipalifpaaGreatDoor
open Go.RowKit

/-- A word of a number over 2^r. -/
theorem down_word {x y r : Nat} (hr : r < 64) (hx : x < 18446744073709551616) :
    x / 2 ^ r ||| y * 2 ^ (64 - r) % 18446744073709551616 = (x + 18446744073709551616 * y) / 2 ^ r % 18446744073709551616 := by
  have hp : 0 < 2 ^ r := Nat.two_pow_pos r
  have hB : (18446744073709551616 : Nat) = 2 ^ r * 2 ^ (64 - r) := by rw [← Nat.pow_add, show r + (64 - r) = 64 by omega]
  have h1 : x / 2 ^ r < 2 ^ (64 - r) := by
    rw [Nat.div_lt_iff_lt_mul hp, Nat.mul_comm, ← hB]; exact hx
  have h2 : (x + 18446744073709551616 * y) / 2 ^ r = x / 2 ^ r + 2 ^ (64 - r) * y := by
    rw [hB, Nat.mul_assoc, Nat.add_mul_div_left _ _ hp]
  have h3 : y * 2 ^ (64 - r) % 18446744073709551616 = 2 ^ (64 - r) * (y % 2 ^ r) := by
    rw [hB, Nat.mul_comm y, Nat.mul_comm (2 ^ r), Nat.mul_mod_mul_left]
  have h4 : (x / 2 ^ r + 2 ^ (64 - r) * y) % 18446744073709551616 = x / 2 ^ r + 2 ^ (64 - r) * (y % 2 ^ r) := by
    have e : 2 ^ (64 - r) * y = 2 ^ (64 - r) * (y % 2 ^ r) + 18446744073709551616 * (y / 2 ^ r) := by
      have := Nat.mod_add_div y (2 ^ r)
      rw [hB, Nat.mul_comm (2 ^ r), Nat.mul_assoc, ← Nat.mul_add, this]
    rw [e, ← Nat.add_assoc, Nat.add_mul_mod_self_left]
    refine Nat.mod_eq_of_lt ?_
    have hy' : y % 2 ^ r + 1 ≤ 2 ^ r := Nat.mod_lt _ hp
    have := Nat.mul_le_mul_left (2 ^ (64 - r)) hy'
    rw [Nat.mul_add, Nat.mul_one, Nat.mul_comm (2 ^ (64 - r)) (2 ^ r), ← hB] at this
    omega
  rw [h3, h2, h4, Nat.or_comm, Nat.add_comm]
  exact (Nat.two_pow_add_eq_or_of_lt h1 _).symm

/-- The digits of a number over 2^r, from the one at q on. -/
def dw (X : List Nat) (r i : Nat) : Nat := (X.getD i 0 + 18446744073709551616 * X.getD (i + 1) 0) / 2 ^ r % 18446744073709551616
theorem dw_lt (X : List Nat) (r i : Nat) : dw X r i < 18446744073709551616 := Nat.mod_lt _ (by decide)
/-- The words of V = val Y, over 2^r, are the words of V / 2^r. -/
theorem dw_val (r : Nat) (hr : r < 64) : ∀ (Y : List Nat), Dg 18446744073709551616 Y → val 18446744073709551616 ((List.range Y.length).map (dw Y r)) = val 18446744073709551616 Y / 2 ^ r := by
  intro Y
  induction Y with
  | nil => intro _; simp [val]
  | cons x t ih =>
    intro h
    have hx := h x List.mem_cons_self
    have iht := ih h.tail
    rw [List.length_cons, List.range_succ_eq_map, List.map_cons, List.map_map]
    have e1 : (dw (x :: t) r) ∘ Nat.succ = dw t r := by
      funext i
      simp [dw]
    rw [e1]
    simp only [val]
    rw [iht]
    have hp : 0 < 2 ^ r := Nat.two_pow_pos r
    have hB : (18446744073709551616 : Nat) = 2 ^ r * 2 ^ (64 - r) := by rw [← Nat.pow_add, show r + (64 - r) = 64 by omega]
    -- dw at 0 looks at the lowest word of the rest
    have ht0 : t.getD 0 0 = val 18446744073709551616 t % 18446744073709551616 := by
      cases t with
      | nil => simp [val]
      | cons y s =>
        have hy := h y (by simp)
        simp only [val, List.getD_cons_zero, Nat.add_mul_mod_self_left]
        exact (Nat.mod_eq_of_lt hy).symm
    have e2 : dw (x :: t) r 0 = (x + 18446744073709551616 * val 18446744073709551616 t) / 2 ^ r % 18446744073709551616 := by
      unfold dw
      rw [List.getD_cons_zero, List.getD_cons_succ, ht0]
      generalize val 18446744073709551616 t = V
      have a1 : ∀ y, (x + 18446744073709551616 * y) / 2 ^ r = x / 2 ^ r + 2 ^ (64 - r) * y := fun y => by
        rw [hB, Nat.mul_assoc, Nat.add_mul_div_left _ _ hp]
      rw [a1, a1, Nat.add_mod, Nat.add_mod (x / 2 ^ r)]
      congr 2
      rw [Nat.mul_mod, Nat.mod_mod, ← Nat.mul_mod]
    rw [e2]
    generalize val 18446744073709551616 t = V
    have a1 : (x + 18446744073709551616 * V) / 2 ^ r = x / 2 ^ r + 2 ^ (64 - r) * V := by
      rw [hB, Nat.mul_assoc, Nat.add_mul_div_left _ _ hp]
    have a2 : V / 2 ^ r = (x + 18446744073709551616 * V) / 2 ^ r / 18446744073709551616 := by
      rw [Nat.div_div_eq_div_mul, Nat.mul_comm (2 ^ r), ← Nat.div_div_eq_div_mul, Nat.add_mul_div_left _ _ (by decide), Nat.div_eq_of_lt hx, Nat.zero_add]
    rw [a2]
    exact Nat.mod_add_div _ _
end Go.Proofs.YtdmjfmipalifpaaGreatDoor
