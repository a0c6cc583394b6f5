/-
  Log2, the package's.
-/
import Derived.Test.YtohimhojieeloabDoorFl
import Derived.Test.YtohimhojieeloabDoorLgN
import Derived.Test.YtohimhojieeloabDoorShB
namespace Go.Proofs.YtohimhojieeloabDoor
open Go.RowKit

theorem len64_any (x : Nat) (w : World) (h1 : 1 ≤ x) (h : x ≤ 9223372036854775807) :
    Calls Tryd.prog 25 #[.int .u64 x] w fun e w' => e = .returned (.int .i64 ((x.log2 : Int) + 1)) ∧ w' = w := by
  have := bits_Len64 (x : Int) w (by omega) (by omega)
  rw [Int.toNat_natCast, bitLen_log2 h1 (by omega)] at this
  simpa using this

theorem mul_pow_cast (x k : Nat) : (x : Int) * 2 ^ k = ((x * 2 ^ k : Nat) : Int) := by simp
theorem div_pow_cast (x k : Nat) : (x : Int) / 2 ^ k = ((x / 2 ^ k : Nat) : Int) := by simp

set_option maxHeartbeats 400000 in
theorem leading_hi (x k : Nat) (w : World) (hx : x ≤ 9223372036854775807) (hk : 1 ≤ k) (hk' : k ≤ 32) :
    Calls Tryd.prog 26 #[.int .i64 x, .int .i64 (30 + (k : Int))] w fun e w' => e = .returned (.int .i64 ((x / 2 ^ k : Nat) : Int)) ∧ Drew w w' := by
  have hs : 30 + (k : Int) - 30 = k := by omega
  have hx' : (x : Int) ≤ 9223372036854775807 := by omega
  have HE : Hid ((x : Int) / 2 ^ k = ((x / 2 ^ k : Nat) : Int)) := div_pow_cast x k
  generalize x / 2 ^ k = M at *
  go_enter Tryd.func26, Tryd.ntmps26
  go_wp2
  go_ret
  exact ⟨ret_int HE.out, Drew.refl _⟩
set_option maxHeartbeats 400000 in
theorem leading_lo (x k : Nat) (w : World) (hk : k ≤ 30) (hb : x * 2 ^ k ≤ 9223372036854775807) :
    Calls Tryd.prog 26 #[.int .i64 x, .int .i64 (30 - (k : Int))] w fun e w' => e = .returned (.int .i64 ((x * 2 ^ k : Nat) : Int)) ∧ Drew w w' := by
  have hs : 30 - (30 - (k : Int)) = k := by omega
  have he := mul_pow_cast x k
  generalize x * 2 ^ k = M at *
  go_enter Tryd.func26, Tryd.ntmps26
  go_wp2
  go_ret
  exact ⟨ret_int (by first | rfl | exact he), Drew.refl _⟩
theorem leading_any (x : Nat) (w : World) (h1 : 1 ≤ x) (h : x ≤ 9223372036854775807) :
    Calls Tryd.prog 26 #[.int .i64 x, .int .i64 (x.log2 : Int)] w fun e w' => e = .returned (.int .i64 (lead x x.log2 : Nat)) ∧ Drew w w' := by
  have hb := lead_bound h1
  have hl := log2_63 h h1
  unfold lead at hb ⊢
  by_cases c : x.log2 ≤ 30
  · rw [if_pos c] at hb ⊢
    obtain ⟨k, hk⟩ : ∃ k, 30 - x.log2 = k := ⟨_, rfl⟩
    rw [hk] at hb ⊢
    rw [show (x.log2 : Int) = 30 - (k : Int) by omega]
    exact leading_lo x k w (by omega) (by omega)
  · rw [if_neg c] at hb ⊢
    obtain ⟨k, hk⟩ : ∃ k, x.log2 - 30 = k := ⟨_, rfl⟩
    rw [hk] at hb ⊢
    rw [show (x.log2 : Int) = 30 + (k : Int) by omega]
    exact leading_hi x k w h (by omega) (by omega)

theorem or_digit (a d : Nat) (ha : a < 4611686018427387904) (hd : d < 2) : bits .or .i64 ((a : Int) * 2) (d : Int) = ((2 * a + d : Nat) : Int) := by
  have h1 : (BitVec.ofInt 64 ((a : Int) * 2)).toNat = 2 * a := by
    have := ofInt64_nat ((a : Int) * 2); omega
  have h2 : (BitVec.ofInt 64 (d : Int)).toNat = d := by
    have := ofInt64_nat (d : Int); omega
  show IntKind.i64.wrap ((BitVec.ofInt 64 ((a : Int) * 2) ||| BitVec.ofInt 64 (d : Int)).toNat : Int) = _
  rw [BitVec.toNat_or, h1, h2]
  have h3 := Nat.shiftLeft_add_eq_or_of_lt (i := 1) (b := d) (by omega) a
  rw [Nat.shiftLeft_eq] at h3
  rw [show 2 * a ||| d = a * 2 ^ 1 + d by rw [h3, Nat.mul_comm], IntKind.wrap_i64]
  omega

set_option maxHeartbeats 400000 in
theorem log2_bad (x : Int) (w : World) (hx : x < 1) :
    Calls Tryd.prog 15 #[.int .i64 x] w fun e w' => e = .returned (.tuple #[.int .i64 0, .int .i64 22]) ∧ Drew w w' := by
  go_enter Tryd.func15, Tryd.ntmps15
  go_wp2
  go_ret2
  exact ⟨rfl, Drew.refl _⟩

set_option maxHeartbeats 800000 in
theorem log2_ok (x : Nat) (w : World) (h1 : 1 ≤ x) (h : x ≤ 9223372036854775807) :
    Calls Tryd.prog 15 #[.int .i64 x] w fun e w' => e = .returned (.tuple #[.int .i64 (lg x : Nat), .int .i64 0]) ∧ Drew w w' := by
  have hL := log2_63 h h1
  have hb := lead_bound h1
  have hlen := fun w => len64_any x w h1 h
  have hlead := fun w => leading_any x w h1 h
  have HG : Hid (lg x = 65536 * x.log2 + (lrun (lead x x.log2, 0) 16).2) := rfl
  generalize lg x = G at *
  generalize lead x x.log2 = m at *
  generalize x.log2 = L at *
  go_enter Tryd.func15, Tryd.ntmps15
  go_wp2_with fail
  refine (hlen _).mono ?_
  rintro e w1 ⟨rfl, rfl⟩
  go_wp2_with fail
  refine (hlead _).mono ?_
  rintro e w2 ⟨rfl, hw2⟩
  have HK : Hid (Drew w1 w2) := hw2
  clear hw2 hlen hlead
  go_wp2
  go_loop [5, 6, 18] (fun v a i => ∃ k : Nat, k ≤ 16 ∧ i = .int .i64 k ∧ v = .int .i64 ((lrun (m, L) k).1 : Nat) ∧ a = .int .i64 ((lrun (m, L) k).2 : Nat)) (fun _ _ i => 16 - (intOf i).toNat)
  case atStart => exact ⟨0, by omega, rfl, rfl, rfl⟩
  case round =>
    obtain ⟨k, hk, rfl, rfl, rfl⟩ := hrel
    obtain ⟨c0, c1⟩ := lrun_bound (p := (m, L)) hb k
    have ha : (lrun (m, L) k).2 < 4611686018427387904 := by
      rw [lrun_from]
      have e1 := lrun_lt m k
      have e2 : 2 ^ k ≤ 2 ^ 16 := Nat.pow_le_pow_right (by omega) hk
      have e3 := Nat.mul_le_mul hL e2
      show L * 2 ^ k + (lrun (m, 0) k).2 < _
      omega
    by_cases hlt : k < 16
    · have HS : Hid (lrun (m, L) (k + 1) = lstep (lrun (m, L) k)) := rfl
      generalize lrun (m, L) k = p at *
      obtain ⟨q, a⟩ := p
      have c0 : 1073741824 ≤ q := c0
      have c1 : q < 2147483648 := c1
      have ha : a < 4611686018427387904 := ha
      show _
      obtain ⟨s0, s1⟩ := sq_bound c0 c1
      obtain ⟨S, hS⟩ : ∃ S, S = q * q := ⟨_, rfl⟩
      have hSI : (q : Int) * (q : Int) = (S : Int) := by rw [hS]; simp
      have HS2 : Hid (lstep (q, a) = if 2147483648 ≤ S / 1073741824 then (S / 1073741824 / 2, 2 * a + 1) else (S / 1073741824, 2 * a)) := by rw [hS]; rfl
      rw [← hS] at s0 s1
      clear hS
      have hor := or_digit a
      by_cases hd : 2147483648 ≤ S / 1073741824
      · have hdI : (S : Int) / 1073741824 / 2147483648 = 1 := by omega
        have ho := hor 1 ha (by omega)
        rw [show ((1 : Nat) : Int) = 1 from rfl] at ho
        rw [if_pos hd] at HS2
        clear hor
        go_wp2
        go_round
        case rel => exact ⟨k + 1, by omega, by go_num, by rw [HS.out, HS2.out]; go_num, by rw [HS.out, HS2.out]; go_num⟩
        case measure => simp [intOf]; omega
      · have hdI : (S : Int) / 1073741824 / 2147483648 = 0 := by omega
        have ho := hor 0 ha (by omega)
        rw [show ((0 : Nat) : Int) = 0 from rfl] at ho
        rw [if_neg hd] at HS2
        clear hor
        go_wp2
        go_round
        case rel => exact ⟨k + 1, by omega, by go_num, by rw [HS.out, HS2.out]; go_num, by rw [HS.out, HS2.out]; go_num⟩
        case measure => simp [intOf]; omega
    · obtain rfl : k = 16 := by omega
      rw [show ((16 : Nat) : Int) = 16 from rfl]
      have HF : Hid ((lrun (m, L) 16).2 = G) := by
        rw [HG.out, lrun_from]
        show L * 2 ^ 16 + _ = _
        omega
      generalize (lrun (m, L) 16).2 = R at *
      generalize (lrun (m, L) 16).1 = R1 at *
      have e := HF.out
      subst e
      go_wp2
      go_ret2
      exact ⟨rfl, HK.out⟩
end Go.Proofs.YtohimhojieeloabDoor
