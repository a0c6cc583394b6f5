/-
  Sqrt, the document's.
-/
import Derived.Test.YtibbifklnimlcaaFsq
namespace Go.Proofs.Ytibbifklnimlcaa
open Go.RowKit

set_option maxHeartbeats 400000 in
theorem refSqrt_bad (x : Int) (w : World) (hx : x < 0) :
    Calls Try.prog 21 #[.int .i64 x] w fun e w' => e = .returned (.tuple #[.int .i64 0, .int .i64 22]) ∧ Drew w w' := by
  go_enter Try.func21, Try.ntmps21
  go_wp2
  go_ret2
  exact ⟨rfl, Drew.refl _⟩

set_option maxHeartbeats 800000 in
theorem refSqrt_ok (x : Nat) (w : World) (hx : x ≤ 9223372036854775807) :
    Calls Try.prog 21 #[.int .i64 x] w fun e w' => ∃ r : Nat, e = .returned (.tuple #[.int .i64 r, .int .i64 0]) ∧ Root x r ∧ Drew w w' := by
  go_enter Try.func21, Try.ntmps21
  go_wp2
  go_loop [4, 5] (fun r st => ∃ j R : Nat, j ≤ 32 ∧ r = .int .i64 R ∧ st = .int .i64 ((2 ^ j / 2 : Nat) : Int) ∧ R * R ≤ x ∧ x < (R + 2 ^ j) * (R + 2 ^ j) ∧ R + 2 ^ j ≤ 4294967296) (fun _ st => (intOf st).toNat)
  case atStart => exact ⟨32, 0, by omega, rfl, rfl, by omega, by omega, by omega⟩
  case round =>
    obtain ⟨j, R, hj, rfl, rfl, h1, h2, h3⟩ := hrel
    cases j with
    | zero =>
      rw [show 2 ^ 0 / 2 = 0 from rfl]
      go_wp2
      go_ret2
      exact ⟨R, rfl, ⟨h1, h2⟩, Drew.refl _⟩
    | succ i =>
      obtain ⟨P, hP⟩ : ∃ P, P = 2 ^ i := ⟨_, rfl⟩
      have e2 : 2 ^ (i + 1) = P + P := by rw [hP, Nat.pow_succ]; omega
      rw [two_pow_half i, ← hP]
      rw [e2] at h2 h3
      have hp : 0 < P := by rw [hP]; exact Nat.pos_of_ne_zero (by simp)
      have HP : Hid (P = 2 ^ i) := hP
      have HR : Hid (R * R ≤ x) := h1
      have HU : Hid (x < (R + (P + P)) * (R + (P + P))) := h2
      clear hP e2 h1 h2
      obtain ⟨N, hN⟩ : ∃ N, N = (R + P) * (R + P) := ⟨_, rfl⟩
      have hs : ((R : Int) + (P : Int)) * ((R : Int) + (P : Int)) = (N : Int) := by rw [sq_cast, hN]
      have HN : Hid (N = (R + P) * (R + P)) := hN
      by_cases hb : R + P ≤ 3037000499
      · have hn : (R + P) * (R + P) ≤ 3037000499 * 3037000499 := Nat.mul_le_mul (by omega) (by omega)
        rw [← hN] at hn
        clear hN
        by_cases hle : N ≤ x
        · go_wp2
          go_round
          case rel => exact ⟨i, R + P, by omega, by go_num, by rw [← HP.out]; go_num, by rw [← HN.out]; exact hle, by rw [← HP.out, Nat.add_assoc]; exact HU.out, by rw [← HP.out]; omega⟩
          case measure => simp [intOf]; omega
        · go_wp2
          go_round
          case rel => exact ⟨i, R, by omega, by go_num, by rw [← HP.out]; go_num, HR.out, by rw [← HP.out, ← HN.out]; omega, by rw [← HP.out]; omega⟩
          case measure => simp [intOf]; omega
      · have hn : 3037000500 * 3037000500 ≤ (R + P) * (R + P) := Nat.mul_le_mul (by omega) (by omega)
        rw [← hN] at hn
        clear hN hs
        go_wp2
        go_round
        case rel => exact ⟨i, R, by omega, by go_num, by rw [← HP.out]; go_num, HR.out, by rw [← HP.out, ← HN.out]; omega, by rw [← HP.out]; omega⟩
        case measure => simp [intOf]; omega

theorem refSqrt_any (x : Int) (w : World) (hx : I64 x) :
    Calls Try.prog 21 #[.int .i64 x] w fun e w' => ∃ r : Nat, e = .returned (.tuple #[.int .i64 r, .int .i64 (sqE x)]) ∧ IsRt x r ∧ Drew w w' := by
  unfold sqE
  rcases Int.lt_or_le x 0 with h | h
  · rw [if_pos h]
    refine (refSqrt_bad x w h).mono ?_
    rintro e w1 ⟨rfl, h1⟩
    exact ⟨0, rfl, Or.inl ⟨h, rfl⟩, h1⟩
  · rw [if_neg (by omega)]
    obtain ⟨n, rfl⟩ : ∃ n : Nat, x = n := ⟨x.toNat, by omega⟩
    refine (refSqrt_ok n w (by have := hx.2; omega)).mono ?_
    rintro e w1 ⟨r, rfl, hr, h1⟩
    exact ⟨r, rfl, Or.inr ⟨h, hr⟩, h1⟩
end Go.Proofs.Ytibbifklnimlcaa
