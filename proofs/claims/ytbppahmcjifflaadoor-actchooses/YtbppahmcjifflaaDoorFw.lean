/-
  Near and Round, the package's.
-/
import Derived.Test.YtbppahmcjifflaaDoorFwf
namespace Go.Proofs.YtbppahmcjifflaaDoor
open Go.RowKit

/-- The nearest whole number of x / d, of two as near the even one. -/
def near (x d : Int) : Int := if d - x % d < x % d ∨ (x % d = d - x % d ∧ ¬ x / d % 2 = 0) then x / d + 1 else x / d

set_option maxHeartbeats 400000 in
theorem near_bad (x d : Int) (w : World) (hd : d < 1) :
    Calls Tryd.prog 61 #[.int .i64 x, .int .i64 d] w fun e w' => e = .returned (.tuple #[.int .i64 0, .int .i64 21]) ∧ Drew w w' := by
  go_enter Tryd.func61, Tryd.ntmps61
  go_wp2_with fail
  refine (floor_bad _ _ _ hd).mono ?_
  rintro e w1 ⟨rfl, hw1⟩
  go_wp2
  go_ret2
  exact ⟨rfl, hw1⟩

set_option maxHeartbeats 400000 in
theorem near_ok (x d : Int) (w : World) (hx : I64 x) (hd : 1 ≤ d) (hd' : d ≤ 9223372036854775807) :
    Calls Tryd.prog 61 #[.int .i64 x, .int .i64 d] w fun e w' => e = .returned (.tuple #[.int .i64 (near x d), .int .i64 0]) ∧ Drew w w' := by
  have hb := ediv_bounds x d hd hx.1 hx.2
  have hh := fun h => ediv_half x d hx h
  have r0 : 0 ≤ x % d := Int.emod_nonneg _ (by omega)
  have r1 : x % d < d := Int.emod_lt_of_pos _ (by omega)
  have ho := and_one (x / d)
  have hf := floor_ok x d w hx hd hd'
  unfold near
  generalize x / d = q at *
  generalize x % d = r at *
  by_cases h1 : d - r < r
  · rw [if_pos (Or.inl h1)]
    have := hh (by omega)
    go_enter Tryd.func61, Tryd.ntmps61
    go_wp2_with fail
    refine hf.mono ?_
    rintro e w1 ⟨rfl, hw1⟩
    go_wp2
    go_ret2
    exact ⟨rfl, hw1⟩
  · by_cases h2 : r = d - r
    · have := hh (by omega)
      obtain rfl : d = r + r := by omega
      clear h2
      by_cases h3 : q % 2 = 0
      · rw [if_neg (by omega)]
        go_enter Tryd.func61, Tryd.ntmps61
        go_wp2_with fail
        refine hf.mono ?_
        rintro e w1 ⟨rfl, hw1⟩
        go_wp2
        go_ret2
        exact ⟨rfl, hw1⟩
      · rw [if_pos (by omega)]
        go_enter Tryd.func61, Tryd.ntmps61
        go_wp2_with fail
        refine hf.mono ?_
        rintro e w1 ⟨rfl, hw1⟩
        go_wp2
        go_ret2
        exact ⟨rfl, hw1⟩
    · rw [if_neg (by omega)]
      go_enter Tryd.func61, Tryd.ntmps61
      go_wp2_with fail
      refine hf.mono ?_
      rintro e w1 ⟨rfl, hw1⟩
      go_wp2
      go_ret2
      exact ⟨rfl, hw1⟩

set_option maxHeartbeats 400000 in
theorem round_bad (x s : Int) (w : World) (hs : s < 0 ∨ 62 < s) :
    Calls Tryd.prog 43 #[.int .i64 x, .int .i64 s] w fun e w' => e = .returned (.tuple #[.int .i64 0, .int .i64 20]) ∧ Drew w w' := by
  by_cases h : s < 0
  · go_enter Tryd.func43, Tryd.ntmps43
    go_wp2
    go_ret2
    exact ⟨rfl, Drew.refl _⟩
  · have h2 : 62 < s := by omega
    go_enter Tryd.func43, Tryd.ntmps43
    go_wp2
    go_ret2
    exact ⟨rfl, Drew.refl _⟩

theorem pow62 (k : Nat) (hk : k ≤ 62) : 1 ≤ (2 : Int) ^ k ∧ (2 : Int) ^ k ≤ 4611686018427387904 := by
  have e : (2 : Int) ^ k = ((2 ^ k : Nat) : Int) := by simp
  have h1 : 2 ^ k ≤ 2 ^ 62 := Nat.pow_le_pow_right (by omega) hk
  have h0 : 0 < 2 ^ k := Nat.pos_of_ne_zero (by simp)
  rw [e]
  omega

set_option maxHeartbeats 400000 in
theorem round_ok (x : Int) (k : Nat) (w : World) (hx : I64 x) (hk : k ≤ 62) :
    Calls Tryd.prog 43 #[.int .i64 x, .int .i64 k] w fun e w' => e = .returned (.tuple #[.int .i64 (near x (2 ^ k)), .int .i64 0]) ∧ Drew w w' := by
  obtain ⟨p1, p2⟩ := pow62 k hk
  have hc := near_ok x (2 ^ k) w hx p1 (by omega)
  go_enter Tryd.func43, Tryd.ntmps43
  go_wp2_with fail
  refine hc.mono ?_
  rintro e w1 ⟨rfl, hw1⟩
  go_wp2
  go_ret2
  exact ⟨rfl, hw1⟩

def nrQ (x d : Int) : Int := if d < 1 then 0 else near x d
def rdQ (x s : Int) : Int := if s < 0 ∨ 62 < s then 0 else near x (2 ^ s.toNat)
def rdE (s : Int) : Int := if s < 0 ∨ 62 < s then 20 else 0

theorem near_any (x d : Int) (w : World) (hx : I64 x) (hd : I64 d) :
    Calls Tryd.prog 61 #[.int .i64 x, .int .i64 d] w fun e w' => e = .returned (.tuple #[.int .i64 (nrQ x d), .int .i64 (flE d)]) ∧ Drew w w' := by
  unfold nrQ flE
  rcases Int.lt_or_le d 1 with h | h
  · rw [if_pos h, if_pos h]; exact near_bad x d w h
  · rw [if_neg (by omega), if_neg (by omega)]; exact near_ok x d w hx h hd.2
theorem round_any (x s : Int) (w : World) (hx : I64 x) :
    Calls Tryd.prog 43 #[.int .i64 x, .int .i64 s] w fun e w' => e = .returned (.tuple #[.int .i64 (rdQ x s), .int .i64 (rdE s)]) ∧ Drew w w' := by
  unfold rdQ rdE
  by_cases h : s < 0 ∨ 62 < s
  · rw [if_pos h, if_pos h]; exact round_bad x s w h
  · rw [if_neg h, if_neg h]
    have := round_ok x s.toNat w hx (by omega)
    rwa [show ((s.toNat : Nat) : Int) = s by omega] at this

end Go.Proofs.YtbppahmcjifflaaDoor
