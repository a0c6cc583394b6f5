/-
  A long division bit by bit, over digits to the base 65536.
-/
import Derived.Test.YtdmjfmipalifpaaGreatDoorWmN
namespace Go.Proofs.YtdmjfmipalifpaaGreatDoor

theorem val_digit {B : Nat} (hB : 0 < B) : ∀ (k : Nat) {L : List Nat}, Dg B L → val B L / B ^ k % B = L.getD k 0
  | _, [], _ => by simp [val]
  | 0, d :: r, h => by
    have := h d (List.mem_cons_self)
    simp only [val, Nat.pow_zero, Nat.div_one, Nat.add_mul_mod_self_left, Nat.mod_eq_of_lt this, List.getD_cons_zero]
  | k + 1, d :: r, h => by
    have h1 := h d (List.mem_cons_self)
    have e : (d + B * val B r) / B = val B r := by rw [Nat.add_mul_div_left _ _ hB, Nat.div_eq_of_lt h1, Nat.zero_add]
    rw [val, Nat.pow_succ, Nat.mul_comm (B ^ k) B, ← Nat.div_div_eq_div_mul, e, val_digit hB k h.tail, List.getD_cons_succ]
/-- A binary digit of a digit is one of the number. -/
theorem dig_bit {X t : Nat} (ht : t < 16) : X % 65536 / 2 ^ t % 2 = X / 2 ^ t % 2 := by
  obtain ⟨s, hs⟩ : ∃ s, 16 = t + (s + 1) := ⟨15 - t, by omega⟩
  have e : 65536 = 2 ^ t * (2 ^ s * 2) := by rw [← Nat.pow_succ, ← Nat.pow_add, ← hs]
  have hx := Nat.div_add_mod X 65536
  have hp : 0 < 2 ^ t := Nat.pow_pos (by omega)
  have e2 : X / 2 ^ t = 2 ^ s * 2 * (X / 65536) + X % 65536 / 2 ^ t := by
    conv => lhs; rw [← hx]
    rw [show 65536 * (X / 65536) = 2 ^ t * (2 ^ s * 2 * (X / 65536)) by rw [← Nat.mul_assoc, ← e], Nat.mul_add_div hp]
  rw [e2, Nat.mul_comm (2 ^ s) 2, Nat.mul_assoc]
  omega
theorem bit_at {L : List Nat} (h : Dg 65536 L) (i : Nat) : L.getD (i / 16) 0 / 2 ^ (i % 16) % 2 = val 65536 L / 2 ^ i % 2 := by
  rw [← val_digit (by omega) (i / 16) h, dig_bit (by omega), show (65536 : Nat) = 2 ^ 16 from rfl, ← Nat.pow_mul, Nat.div_div_eq_div_mul, ← Nat.pow_add]
  congr 3
  omega
/-- One round. -/
theorem md_step {top d bit : Nat} (hd : 0 < d) (hb : bit < 2) :
    (d ≤ 2 * (top % d) + bit → (2 * top + bit) / d = 2 * (top / d) + 1 ∧ (2 * top + bit) % d = 2 * (top % d) + bit - d) ∧
    (2 * (top % d) + bit < d → (2 * top + bit) / d = 2 * (top / d) ∧ (2 * top + bit) % d = 2 * (top % d) + bit) := by
  have hx := Nat.div_add_mod top d
  have hr := Nat.mod_lt top hd
  generalize top / d = q at *
  generalize top % d = r at *
  constructor
  · intro h
    have e : 2 * top + bit = d * (2 * q + 1) + (2 * r + bit - d) := by
      rw [← hx, Nat.mul_add, Nat.mul_add, Nat.mul_left_comm 2 d q, Nat.mul_one]
      omega
    rw [e]
    exact ⟨by rw [Nat.mul_add_div hd, Nat.div_eq_of_lt (by omega), Nat.add_zero], by rw [Nat.mul_add_mod, Nat.mod_eq_of_lt (by omega)]⟩
  · intro h
    have e : 2 * top + bit = d * (2 * q) + (2 * r + bit) := by
      rw [← hx, Nat.mul_add, Nat.mul_left_comm 2 d q]
      omega
    rw [e]
    exact ⟨by rw [Nat.mul_add_div hd, Nat.div_eq_of_lt h, Nat.add_zero], by rw [Nat.mul_add_mod, Nat.mod_eq_of_lt h]⟩
theorem half_top (P i : Nat) : P / 2 ^ i = 2 * (P / 2 ^ (i + 1)) + P / 2 ^ i % 2 := by
  have e : P / 2 ^ (i + 1) = P / 2 ^ i / 2 := by rw [Nat.pow_succ, Nat.div_div_eq_div_mul]
  rw [e]
  omega
/-- A digit behind the value's end is 0. -/
theorem getD_zero {B : Nat} (hB : 0 < B) {L : List Nat} (h : Dg B L) {k : Nat} (hv : val B L < B ^ k) : L.getD k 0 = 0 := by
  rw [← val_digit hB k h, Nat.div_eq_of_lt hv, Nat.zero_mod]
/-- The inner step of a product. -/
theorem md_inner {B : Nat} {Z : List Nat} {k x y c V T : Nat} (hk : k < Z.length) (h : val B Z + B ^ k * c = V) (hT : T = V + B ^ k * (x * y)) :
    val B (Z.set k ((Z.getD k 0 + x * y + c) % B)) + B ^ (k + 1) * ((Z.getD k 0 + x * y + c) / B) = T := by
  have h1 := val_set B Z k ((Z.getD k 0 + x * y + c) % B) hk
  have e := Nat.mod_add_div (Z.getD k 0 + x * y + c) B
  have e2 := congrArg (B ^ k * ·) e
  simp only [Nat.mul_add] at e2
  rw [Nat.pow_succ, Nat.mul_assoc]
  generalize B ^ k * ((Z.getD k 0 + x * y + c) % B) = p1 at *
  generalize B ^ k * (B * ((Z.getD k 0 + x * y + c) / B)) = p2 at *
  generalize B ^ k * Z.getD k 0 = p3 at *
  generalize B ^ k * (x * y) = p4 at *
  generalize B ^ k * c = p5 at *
  omega
theorem md_bound {a y E D Z T V : Nat} (h1 : a + T = Z + E * (D * y)) (h3 : Z = V * y) : a + T = (V + E * D) * y := by
  rw [h1, h3, Nat.add_mul, Nat.mul_assoc]
end Go.Proofs.YtdmjfmipalifpaaGreatDoor
