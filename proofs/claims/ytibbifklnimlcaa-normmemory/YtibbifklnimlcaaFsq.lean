/-
  Sqrt, the package's.
-/
import Derived.Test.YtibbifklnimlcaaFw
namespace Go.Proofs.Ytibbifklnimlcaa
open Go.RowKit

/-- r is the root of x, rounded down. -/
def Root (x r : Nat) : Prop := r * r ≤ x ∧ x < (r + 1) * (r + 1)

theorem root_unique {x r s : Nat} (h : Root x r) (k : Root x s) : r = s := by
  rcases Nat.lt_trichotomy r s with c | c | c
  · have := Nat.mul_le_mul (show r + 1 ≤ s by omega) (show r + 1 ≤ s by omega)
    have := h.2; have := k.1; omega
  · exact c
  · have := Nat.mul_le_mul (show s + 1 ≤ r by omega) (show s + 1 ≤ r by omega)
    have := k.2; have := h.1; omega

theorem two_pow_half (i : Nat) : 2 ^ (i + 1) / 2 = 2 ^ i := by rw [Nat.pow_succ]; omega

set_option maxHeartbeats 400000 in
theorem sqrt_bad (x : Int) (w : World) (hx : x < 0) :
    Calls Try.prog 27 #[.int .i64 x] w fun e w' => e = .returned (.tuple #[.int .i64 0, .int .i64 22]) ∧ Drew w w' := by
  go_enter Try.func27, Try.ntmps27
  go_wp2
  go_ret2
  exact ⟨rfl, Drew.refl _⟩

theorem sq_cast (a b : Nat) : ((a : Int) + (b : Int)) * ((a : Int) + (b : Int)) = (((a + b) * (a + b) : Nat) : Int) := by simp

set_option maxHeartbeats 400000 in
theorem sqrt_ok (x : Nat) (w : World) (hx : x ≤ 9223372036854775807) :
    Calls Try.prog 27 #[.int .i64 x] w fun e w' => ∃ r : Nat, e = .returned (.tuple #[.int .i64 r, .int .i64 0]) ∧ Root x r ∧ Drew w w' := by
  go_enter Try.func27, Try.ntmps27
  go_wp2
  go_loop [4, 5] (fun r st => ∃ j R : Nat, j ≤ 32 ∧ r = .int .u64 R ∧ st = .int .u64 ((2 ^ j / 2 : Nat) : Int) ∧ R * R ≤ x ∧ x < (R + 2 ^ j) * (R + 2 ^ j) ∧ R + 2 ^ j ≤ 4294967296) (fun _ st => (intOf st).toNat)
  case atStart => exact ⟨32, 0, by omega, rfl, rfl, by omega, by omega, by omega⟩
  case round =>
    obtain ⟨j, R, hj, rfl, rfl, h1, h2, h3⟩ := hrel
    cases j with
    | zero =>
      rw [show 2 ^ 0 / 2 = 0 from rfl]
      go_wp2
      go_ret2
      have hr : R * R ≤ 4294967295 * 4294967295 := Nat.mul_le_mul (by omega) (by omega)
      exact ⟨R, rfl, ⟨h1, h2⟩, Drew.refl _⟩
    | succ i =>
      obtain ⟨P, hP⟩ : ∃ P, P = 2 ^ i := ⟨_, rfl⟩
      have e2 : 2 ^ (i + 1) = P + P := by rw [hP, Nat.pow_succ]; omega
      rw [two_pow_half i, ← hP]
      rw [e2] at h2 h3
      have hp : 0 < P := by rw [hP]; exact Nat.pos_of_ne_zero (by simp)
      have HP : Hid (P = 2 ^ i) := hP
      have HR : Hid (R * R ≤ x) := h1
      have HU : Hid (x < (R + (P + P)) * (R + (P + P))) := h2
      clear hP e2 h1 h2
      have hn : (R + P) * (R + P) ≤ 4294967295 * 4294967295 := Nat.mul_le_mul (by omega) (by omega)
      obtain ⟨N, hN⟩ : ∃ N, N = (R + P) * (R + P) := ⟨_, rfl⟩
      have hs : ((R : Int) + (P : Int)) * ((R : Int) + (P : Int)) = (N : Int) := by rw [sq_cast, hN]
      rw [← hN] at hn
      have HN : Hid (N = (R + P) * (R + P)) := hN
      clear hN
      by_cases hle : N ≤ x
      · go_wp2
        go_round
        case rel => exact ⟨i, R + P, by omega, by go_num, by rw [← HP.out]; go_num, by rw [← HN.out]; exact hle, by rw [← HP.out, Nat.add_assoc]; exact HU.out, by rw [← HP.out]; omega⟩
        case measure => simp [intOf]; omega
      · go_wp2
        go_round
        case rel => exact ⟨i, R, by omega, by go_num, by rw [← HP.out]; go_num, HR.out, by rw [← HP.out, ← HN.out]; omega, by rw [← HP.out]; omega⟩
        case measure => simp [intOf]; omega

/-- What Sqrt tells of any number. -/
def IsRt (x : Int) (r : Nat) : Prop := (x < 0 ∧ r = 0) ∨ (0 ≤ x ∧ Root x.toNat r)
def sqE (x : Int) : Int := if x < 0 then 22 else 0
theorem IsRt.unique {x : Int} {r s : Nat} (h : IsRt x r) (k : IsRt x s) : r = s := by
  rcases h with ⟨h1, h2⟩ | ⟨h1, h2⟩ <;> rcases k with ⟨k1, k2⟩ | ⟨k1, k2⟩
  · omega
  · omega
  · omega
  · exact root_unique h2 k2
theorem sqrt_any (x : Int) (w : World) (hx : I64 x) :
    Calls Try.prog 27 #[.int .i64 x] w fun e w' => ∃ r : Nat, e = .returned (.tuple #[.int .i64 r, .int .i64 (sqE x)]) ∧ IsRt x r ∧ Drew w w' := by
  unfold sqE
  rcases Int.lt_or_le x 0 with h | h
  · rw [if_pos h]
    refine (sqrt_bad x w h).mono ?_
    rintro e w1 ⟨rfl, h1⟩
    exact ⟨0, rfl, Or.inl ⟨h, rfl⟩, h1⟩
  · rw [if_neg (by omega)]
    obtain ⟨n, rfl⟩ : ∃ n : Nat, x = n := ⟨x.toNat, by omega⟩
    refine (sqrt_ok n w (by have := hx.2; omega)).mono ?_
    rintro e w1 ⟨r, rfl, hr, h1⟩
    exact ⟨r, rfl, Or.inr ⟨h, hr⟩, h1⟩
end Go.Proofs.Ytibbifklnimlcaa
