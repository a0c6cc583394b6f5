/-
  The numbers of layer 2: bits of an int64, quotients, roots.
-/
import Derived.WalkKit
import Derived.WalkSpells
import Derived.WalkLawsBesides
import Derived.Laws.Bits64b
import Derived.Test.YtakiimjldccgcabDoorChecked
import Derived.Test.YtakiimjldccgcabDoorVcaToMkL
import Derived.Deep.QuietTactic
import Derived.BigQuiet
namespace Go.Proofs.YtakiimjldccgcabDoor
open Go.RowKit

theorem ofInt64_nat (a : Int) : ((BitVec.ofInt 64 a).toNat : Int) = a % 18446744073709551616 := by
  rw [BitVec.toNat_ofInt]
  have : 0 ≤ a % ((2 ^ 64 : Nat) : Int) := Int.emod_nonneg _ (by decide)
  rw [Int.toNat_of_nonneg this]
  rfl

/-- The lowest bits of an int64. -/
theorem and_mask (x : Int) (k : Nat) (hk : k ≤ 62) : bits .and .i64 x ((2 ^ k - 1 : Nat) : Int) = x % ((2 ^ k : Nat) : Int) := by
  have hp : 2 ^ k ≤ 2 ^ 62 := Nat.pow_le_pow_right (by omega) hk
  have h1 := ofInt64_nat x
  have h2 : (BitVec.ofInt 64 ((2 ^ k - 1 : Nat) : Int)).toNat = 2 ^ k - 1 := by
    rw [BitVec.ofInt_natCast, BitVec.toNat_ofNat]; exact Nat.mod_eq_of_lt (by omega)
  show IntKind.i64.wrap ((BitVec.ofInt 64 x &&& BitVec.ofInt 64 ((2 ^ k - 1 : Nat) : Int)).toNat : Int) = _
  rw [BitVec.toNat_and, h2, Nat.and_two_pow_sub_one_eq_mod, IntKind.wrap_i64]
  have hm : (BitVec.ofInt 64 x).toNat % 2 ^ k < 2 ^ k := Nat.mod_lt _ (Nat.pos_of_ne_zero (by simp))
  have e : ((BitVec.ofInt 64 x).toNat % 2 ^ k : Nat) = x % ((2 ^ k : Nat) : Int) := by
    rw [Int.natCast_emod, h1]
    apply Int.emod_emod_of_dvd
    refine ⟨((2 ^ (64 - k) : Nat) : Int), ?_⟩
    rw [← Int.natCast_mul, ← Nat.pow_add, show k + (64 - k) = 64 by omega]
    rfl
  rw [← e]
  omega
theorem and_one (x : Int) : bits .and .i64 x 1 = x % 2 := and_mask x 1 (by omega)
theorem and_16 (x : Int) : bits .and .i64 x 65535 = x % 65536 := and_mask x 16 (by omega)

/-- The sign of bits. -/
theorem neg_wrap (v : BitVec 64) : (IntKind.i64.wrap (v.toNat : Int) < 0) ↔ v.msb = true := by
  rw [IntKind.wrap_i64, BitVec.msb_eq_decide]
  have := v.isLt
  simp only [decide_eq_true_eq]
  omega
theorem msb_ofInt (a : Int) (h0 : -9223372036854775808 ≤ a) (h1 : a ≤ 9223372036854775807) : (BitVec.ofInt 64 a).msb = decide (a < 0) := by
  rw [BitVec.msb_eq_decide]
  have := ofInt64_nat a
  congr 1
  apply propext
  omega
theorem ofInt_wrap (v : BitVec 64) : BitVec.ofInt 64 (IntKind.i64.wrap (v.toNat : Int)) = v := by
  apply BitVec.eq_of_toNat_eq
  have h := ofInt64_nat (IntKind.i64.wrap (v.toNat : Int))
  rw [IntKind.wrap_i64] at h ⊢
  have := v.isLt
  omega
/-- A sum wraps just where both have one sign and it has the other. -/
theorem sign_test (a b s : Int) (a0 : -9223372036854775808 ≤ a) (a1 : a ≤ 9223372036854775807) (b0 : -9223372036854775808 ≤ b) (b1 : b ≤ 9223372036854775807) (s0 : -9223372036854775808 ≤ s) (s1 : s ≤ 9223372036854775807) :
    bits .and .i64 (bits .xor .i64 a s) (bits .xor .i64 b s) < 0 ↔ ((a < 0) ∧ ¬ (s < 0) ∧ b < 0) ∨ (¬ (a < 0) ∧ (s < 0) ∧ ¬ b < 0) := by
  show IntKind.i64.wrap ((BitVec.ofInt 64 (IntKind.i64.wrap ((BitVec.ofInt 64 a ^^^ BitVec.ofInt 64 s).toNat : Int)) &&& BitVec.ofInt 64 (IntKind.i64.wrap ((BitVec.ofInt 64 b ^^^ BitVec.ofInt 64 s).toNat : Int))).toNat : Int) < 0 ↔ _
  rw [neg_wrap, ofInt_wrap, ofInt_wrap, BitVec.msb_and, BitVec.msb_xor, BitVec.msb_xor, msb_ofInt a a0 a1, msb_ofInt b b0 b1, msb_ofInt s s0 s1]
  by_cases ha : a < 0 <;> by_cases hb : b < 0 <;> by_cases hs : s < 0 <;> simp [ha, hb, hs]

theorem tmod_bounds (x d : Int) (hd : 1 ≤ d) : -d < x.tmod d ∧ x.tmod d < d := by
  refine ⟨?_, Int.tmod_lt_of_pos x (by omega)⟩
  rw [← Int.tmod_neg]
  by_cases hx : 0 ≤ x
  · have := Int.tmod_nonneg (a := x) (-d) hx; omega
  · have h := Int.tmod_lt_of_pos (-x) (b := d) (by omega)
    rw [Int.neg_tmod] at h
    rw [Int.tmod_neg]; omega

/-- The language cuts towards 0. -/
theorem tdiv_floor (x d : Int) (hd : 1 ≤ d) : (x.tmod d < 0 → x.tdiv d - 1 = x / d ∧ x.tmod d + d = x % d) ∧ (0 ≤ x.tmod d → x.tdiv d = x / d ∧ x.tmod d = x % d) := by
  have e1 := Int.mul_tdiv_add_tmod x d
  have e2 := Int.mul_ediv_add_emod x d
  have b1 : 0 ≤ x % d := Int.emod_nonneg _ (by omega)
  have b2 : x % d < d := Int.emod_lt_of_pos _ (by omega)
  have key : ∀ q r : Int, d * q + r = x → 0 ≤ r → r < d → q = x / d ∧ r = x % d := fun q r h h0 h1 => by
    have := Int.ediv_emod_unique (a := x) (b := d) (r := r) (q := q) (by omega)
    obtain ⟨h2, h3⟩ := this.2 ⟨by rw [Int.add_comm]; exact h, h0, h1⟩
    exact ⟨h2.symm, h3.symm⟩
  obtain ⟨t0, t1⟩ := tmod_bounds x d hd
  refine ⟨fun h => key _ _ (by rw [Int.mul_sub]; omega) (by omega) (by omega), fun h => key _ _ e1 h t1⟩

theorem ediv_bounds (x d : Int) (hd : 1 ≤ d) (x0 : -9223372036854775808 ≤ x) (x1 : x ≤ 9223372036854775807) : -9223372036854775808 ≤ x / d ∧ x / d ≤ 9223372036854775807 := by
  constructor
  · rw [Int.le_ediv_iff_mul_le (by omega)]
    have := Int.mul_le_mul_of_nonneg_left hd (show (0 : Int) ≤ 9223372036854775808 by omega)
    rw [Int.neg_mul]
    omega
  · have : x / d < 9223372036854775808 := by
      rw [Int.ediv_lt_iff_lt_mul (by omega)]
      have := Int.mul_le_mul_of_nonneg_left hd (show (0 : Int) ≤ 9223372036854775808 by omega)
      omega
    omega
theorem tmod_two (q : Int) : q.tmod 2 = 0 ↔ q % 2 = 0 := by
  rw [← Int.dvd_iff_emod_eq_zero, Int.dvd_iff_tmod_eq_zero]
theorem tmod_two_ne (q : Int) : (q.tmod 2 != 0) = !decide (q % 2 = 0) := by
  by_cases h : q % 2 = 0
  · simp [h, (tmod_two q).2 h]
  · have : q.tmod 2 ≠ 0 := fun e => h ((tmod_two q).1 e)
    simp [h, this]
end Go.Proofs.YtakiimjldccgcabDoor

/-
  Floor, the package's.
-/
namespace Go.Proofs.YtakiimjldccgcabDoor
open Go.RowKit

/-- Nothing has turned but that orders were drawn. -/
abbrev Drew (w w' : World) : Prop := ∃ n, w' = w.drewN n
theorem Drew.refl (w : World) : Drew w w := ⟨0, rfl⟩
theorem Drew.trans {a b c : World} (h : Drew a b) (k : Drew b c) : Drew a c := by
  obtain ⟨n, rfl⟩ := h
  obtain ⟨m, rfl⟩ := k
  exact ⟨n + m, World.drewN_drewN ..⟩
theorem Drew.fresh {a b : World} (h : Drew a b) : Fresh a b := by
  obtain ⟨n, rfl⟩ := h
  exact ⟨rfl, rfl, rfl, Nat.le_refl _, fun _ _ _ => rfl⟩
theorem Drew.more {a b : World} (h : Drew a b) (n : Nat) : Drew a (b.drewN n) := h.trans ⟨n, rfl⟩


theorem ediv_half (x d : Int) (hx : I64 x) (hd : 2 ≤ d) : x / d ≤ 4611686018427387903 := by
  obtain ⟨x0, x1⟩ := hx
  have : x / d < 4611686018427387904 := by
    rw [Int.ediv_lt_iff_lt_mul (by omega)]
    have := Int.mul_le_mul_of_nonneg_left hd (show (0 : Int) ≤ 4611686018427387904 by omega)
    omega
  omega

set_option maxHeartbeats 400000 in
theorem floor_bad (x d : Int) (w : World) (hd : d < 1) :
    Calls Tryd.prog 103 #[.int .i64 x, .int .i64 d] w fun e w' => e = .returned (.tuple #[.int .i64 0, .int .i64 0, .int .i64 21]) ∧ Drew w w' := by
  go_enter Tryd.func103, Tryd.ntmps103
  go_wp2
  go_ret3
  exact ⟨rfl, Drew.refl _⟩

set_option maxHeartbeats 400000 in
theorem floor_ok (x d : Int) (w : World) (hx : I64 x) (hd : 1 ≤ d) (hd' : d ≤ 9223372036854775807) :
    Calls Tryd.prog 103 #[.int .i64 x, .int .i64 d] w fun e w' => e = .returned (.tuple #[.int .i64 (x / d), .int .i64 (x % d), .int .i64 0]) ∧ Drew w w' := by
  obtain ⟨x0, x1⟩ := hx
  obtain ⟨f1, f2⟩ := tdiv_floor x d hd
  obtain ⟨b0, b1⟩ := ediv_bounds x d hd x0 x1
  obtain ⟨m0, m1⟩ := tmod_bounds x d hd
  rcases Int.lt_or_le (x.tmod d) 0 with h | h
  · obtain ⟨e1, e2⟩ := f1 h
    rw [← e1, ← e2]
    rw [← e1] at b0 b1
    clear e1 e2 f1 f2
    go_enter Tryd.func103, Tryd.ntmps103
    go_wp2
    go_quiet (fail)
    go_wp2
    go_ret3
    exact ⟨rfl, _, rfl⟩
  · obtain ⟨e1, e2⟩ := f2 h
    rw [← e1, ← e2]
    rw [← e1] at b0 b1
    clear e1 e2 f1 f2
    go_enter Tryd.func103, Tryd.ntmps103
    go_wp2
    go_quiet (fail)
    go_wp2
    go_ret3
    exact ⟨rfl, _, rfl⟩

def flQ (x d : Int) : Int := if d < 1 then 0 else x / d
def flR (x d : Int) : Int := if d < 1 then 0 else x % d
def flE (d : Int) : Int := if d < 1 then 21 else 0

theorem floor_any (x d : Int) (w : World) (hx : I64 x) (hd : I64 d) :
    Calls Tryd.prog 103 #[.int .i64 x, .int .i64 d] w fun e w' => e = .returned (.tuple #[.int .i64 (flQ x d), .int .i64 (flR x d), .int .i64 (flE d)]) ∧ Drew w w' := by
  unfold flQ flR flE
  rcases Int.lt_or_le d 1 with h | h
  · rw [if_pos h, if_pos h, if_pos h]; exact floor_bad x d w h
  · rw [if_neg (by omega), if_neg (by omega), if_neg (by omega)]; exact floor_ok x d w hx h hd.2
end Go.Proofs.YtakiimjldccgcabDoor

/-
  Near and Round, the package's.
-/
namespace Go.Proofs.YtakiimjldccgcabDoor
open Go.RowKit

/-- The nearest whole number of x / d, of two as near the even one. -/
def near (x d : Int) : Int := if d - x % d < x % d ∨ (x % d = d - x % d ∧ ¬ x / d % 2 = 0) then x / d + 1 else x / d

set_option maxHeartbeats 400000 in
theorem near_bad (x d : Int) (w : World) (hd : d < 1) :
    Calls Tryd.prog 94 #[.int .i64 x, .int .i64 d] w fun e w' => e = .returned (.tuple #[.int .i64 0, .int .i64 21]) ∧ Drew w w' := by
  go_enter Tryd.func94, Tryd.ntmps94
  go_wp2_with fail
  refine (floor_bad _ _ _ hd).mono ?_
  rintro e w1 ⟨rfl, hw1⟩
  go_wp2
  go_ret2
  exact ⟨rfl, hw1⟩

set_option maxHeartbeats 400000 in
theorem near_ok (x d : Int) (w : World) (hx : I64 x) (hd : 1 ≤ d) (hd' : d ≤ 9223372036854775807) :
    Calls Tryd.prog 94 #[.int .i64 x, .int .i64 d] w fun e w' => e = .returned (.tuple #[.int .i64 (near x d), .int .i64 0]) ∧ Drew w w' := by
  have hb := ediv_bounds x d hd hx.1 hx.2
  have hh := fun h => ediv_half x d hx h
  have r0 : 0 ≤ x % d := Int.emod_nonneg _ (by omega)
  have r1 : x % d < d := Int.emod_lt_of_pos _ (by omega)
  have ho := and_one (x / d)
  have hf := floor_ok x d w hx hd hd'
  unfold near
  generalize x / d = q at *
  generalize x % d = r at *
  by_cases h1 : d - r < r
  · rw [if_pos (Or.inl h1)]
    have := hh (by omega)
    go_enter Tryd.func94, Tryd.ntmps94
    go_wp2_with fail
    refine hf.mono ?_
    rintro e w1 ⟨rfl, hw1⟩
    go_wp2
    go_ret2
    exact ⟨rfl, hw1⟩
  · by_cases h2 : r = d - r
    · have := hh (by omega)
      obtain rfl : d = r + r := by omega
      clear h2
      by_cases h3 : q % 2 = 0
      · rw [if_neg (by omega)]
        go_enter Tryd.func94, Tryd.ntmps94
        go_wp2_with fail
        refine hf.mono ?_
        rintro e w1 ⟨rfl, hw1⟩
        go_wp2
        go_ret2
        exact ⟨rfl, hw1⟩
      · rw [if_pos (by omega)]
        go_enter Tryd.func94, Tryd.ntmps94
        go_wp2_with fail
        refine hf.mono ?_
        rintro e w1 ⟨rfl, hw1⟩
        go_wp2
        go_ret2
        exact ⟨rfl, hw1⟩
    · rw [if_neg (by omega)]
      go_enter Tryd.func94, Tryd.ntmps94
      go_wp2_with fail
      refine hf.mono ?_
      rintro e w1 ⟨rfl, hw1⟩
      go_wp2
      go_ret2
      exact ⟨rfl, hw1⟩

set_option maxHeartbeats 400000 in
theorem round_bad (x s : Int) (w : World) (hs : s < 0 ∨ 62 < s) :
    Calls Tryd.prog 77 #[.int .i64 x, .int .i64 s] w fun e w' => e = .returned (.tuple #[.int .i64 0, .int .i64 20]) ∧ Drew w w' := by
  by_cases h : s < 0
  · go_enter Tryd.func77, Tryd.ntmps77
    go_wp2
    go_ret2
    exact ⟨rfl, Drew.refl _⟩
  · have h2 : 62 < s := by omega
    go_enter Tryd.func77, Tryd.ntmps77
    go_wp2
    go_ret2
    exact ⟨rfl, Drew.refl _⟩

theorem pow62 (k : Nat) (hk : k ≤ 62) : 1 ≤ (2 : Int) ^ k ∧ (2 : Int) ^ k ≤ 4611686018427387904 := by
  have e : (2 : Int) ^ k = ((2 ^ k : Nat) : Int) := by simp
  have h1 : 2 ^ k ≤ 2 ^ 62 := Nat.pow_le_pow_right (by omega) hk
  have h0 : 0 < 2 ^ k := Nat.pos_of_ne_zero (by simp)
  rw [e]
  omega

set_option maxHeartbeats 400000 in
theorem round_ok (x : Int) (k : Nat) (w : World) (hx : I64 x) (hk : k ≤ 62) :
    Calls Tryd.prog 77 #[.int .i64 x, .int .i64 k] w fun e w' => e = .returned (.tuple #[.int .i64 (near x (2 ^ k)), .int .i64 0]) ∧ Drew w w' := by
  obtain ⟨p1, p2⟩ := pow62 k hk
  have hc := near_ok x (2 ^ k) w hx p1 (by omega)
  go_enter Tryd.func77, Tryd.ntmps77
  go_wp2_with fail
  refine hc.mono ?_
  rintro e w1 ⟨rfl, hw1⟩
  go_wp2
  go_ret2
  exact ⟨rfl, hw1⟩

def nrQ (x d : Int) : Int := if d < 1 then 0 else near x d
def rdQ (x s : Int) : Int := if s < 0 ∨ 62 < s then 0 else near x (2 ^ s.toNat)
def rdE (s : Int) : Int := if s < 0 ∨ 62 < s then 20 else 0

theorem near_any (x d : Int) (w : World) (hx : I64 x) (hd : I64 d) :
    Calls Tryd.prog 94 #[.int .i64 x, .int .i64 d] w fun e w' => e = .returned (.tuple #[.int .i64 (nrQ x d), .int .i64 (flE d)]) ∧ Drew w w' := by
  unfold nrQ flE
  rcases Int.lt_or_le d 1 with h | h
  · rw [if_pos h, if_pos h]; exact near_bad x d w h
  · rw [if_neg (by omega), if_neg (by omega)]; exact near_ok x d w hx h hd.2
theorem round_any (x s : Int) (w : World) (hx : I64 x) :
    Calls Tryd.prog 77 #[.int .i64 x, .int .i64 s] w fun e w' => e = .returned (.tuple #[.int .i64 (rdQ x s), .int .i64 (rdE s)]) ∧ Drew w w' := by
  unfold rdQ rdE
  by_cases h : s < 0 ∨ 62 < s
  · rw [if_pos h, if_pos h]; exact round_bad x s w h
  · rw [if_neg h, if_neg h]
    have := round_ok x s.toNat w hx (by omega)
    rwa [show ((s.toNat : Nat) : Int) = s by omega] at this

end Go.Proofs.YtakiimjldccgcabDoor
