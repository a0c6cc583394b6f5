/-
  Near and Round, the document's.
-/
import Derived.Test.YtbppahmcjifflaaDoorFw
import Derived.Test.YtbppahmcjifflaaDoorFwg
namespace Go.Proofs.YtbppahmcjifflaaDoor
open Go.RowKit

set_option maxHeartbeats 400000 in
theorem refNear_bad (x d : Int) (w : World) (hd : d < 1) :
    Calls Tryd.prog 45 #[.int .i64 x, .int .i64 d] w fun e w' => e = .returned (.tuple #[.int .i64 0, .int .i64 21]) ∧ Drew w w' := by
  go_enter Tryd.func45, Tryd.ntmps45
  go_wp2_with fail
  refine (refFloor_bad _ _ _ hd).mono ?_
  rintro e w1 ⟨rfl, hw1⟩
  go_wp2
  go_ret2
  exact ⟨rfl, hw1⟩

set_option maxHeartbeats 400000 in
theorem refNear_ok (x d : Int) (w : World) (hx : I64 x) (hd : 1 ≤ d) (hd' : d ≤ 9223372036854775807) :
    Calls Tryd.prog 45 #[.int .i64 x, .int .i64 d] w fun e w' => e = .returned (.tuple #[.int .i64 (near x d), .int .i64 0]) ∧ Drew w w' := by
  have hb := ediv_bounds x d hd hx.1 hx.2
  have hh := fun h => ediv_half x d hx h
  have r0 : 0 ≤ x % d := Int.emod_nonneg _ (by omega)
  have r1 : x % d < d := Int.emod_lt_of_pos _ (by omega)
  have ho := tmod_two_ne (x / d)
  have hf := refFloor_ok x d w hx hd hd'
  unfold near
  generalize x / d = q at *
  generalize x % d = r at *
  by_cases h1 : d - r < r
  · rw [if_pos (Or.inl h1)]
    have := hh (by omega)
    go_enter Tryd.func45, Tryd.ntmps45
    go_wp2_with fail
    refine hf.mono ?_
    rintro e w1 ⟨rfl, hw1⟩
    go_wp2
    go_ret2
    exact ⟨rfl, hw1⟩
  · by_cases h2 : r = d - r
    · have := hh (by omega)
      obtain rfl : d = r + r := by omega
      clear h2
      by_cases h3 : q % 2 = 0
      · rw [if_neg (by omega)]
        rw [show (!decide (q % 2 = 0)) = false by simp [h3]] at ho
        go_enter Tryd.func45, Tryd.ntmps45
        go_wp2_with fail
        refine hf.mono ?_
        rintro e w1 ⟨rfl, hw1⟩
        go_wp2
        go_ret2
        exact ⟨rfl, hw1⟩
      · rw [if_pos (by omega)]
        rw [show (!decide (q % 2 = 0)) = true by simp [h3]] at ho
        go_enter Tryd.func45, Tryd.ntmps45
        go_wp2_with fail
        refine hf.mono ?_
        rintro e w1 ⟨rfl, hw1⟩
        go_wp2
        go_ret2
        exact ⟨rfl, hw1⟩
    · rw [if_neg (by omega)]
      go_enter Tryd.func45, Tryd.ntmps45
      go_wp2_with fail
      refine hf.mono ?_
      rintro e w1 ⟨rfl, hw1⟩
      go_wp2
      go_ret2
      exact ⟨rfl, hw1⟩

set_option maxHeartbeats 400000 in
theorem refRound_bad (x s : Int) (w : World) (hs : s < 0 ∨ 62 < s) :
    Calls Tryd.prog 27 #[.int .i64 x, .int .i64 s] w fun e w' => e = .returned (.tuple #[.int .i64 0, .int .i64 20]) ∧ Drew w w' := by
  by_cases h : s < 0
  · go_enter Tryd.func27, Tryd.ntmps27
    go_wp2
    go_ret2
    exact ⟨rfl, Drew.refl _⟩
  · have h2 : 62 < s := by omega
    go_enter Tryd.func27, Tryd.ntmps27
    go_wp2
    go_ret2
    exact ⟨rfl, Drew.refl _⟩

set_option maxHeartbeats 400000 in
theorem refRound_ok (x : Int) (k : Nat) (w : World) (hx : I64 x) (hk : k ≤ 62) :
    Calls Tryd.prog 27 #[.int .i64 x, .int .i64 k] w fun e w' => e = .returned (.tuple #[.int .i64 (near x (2 ^ k)), .int .i64 0]) ∧ Drew w w' := by
  obtain ⟨p1, p2⟩ := pow62 k hk
  have hc := refNear_ok x (2 ^ k) w hx p1 (by omega)
  go_enter Tryd.func27, Tryd.ntmps27
  go_wp2
  go_loop [6, 7] (fun d i => ∃ j : Nat, j ≤ k ∧ i = .int .i64 j ∧ d = .int .i64 (2 ^ j)) (fun _ i => k - (intOf i).toNat)
  case atStart => exact ⟨0, by omega, rfl, rfl⟩
  case round =>
    obtain ⟨j, hj, rfl, rfl⟩ := hrel
    by_cases hlt : j < k
    · obtain ⟨q1, q2⟩ := pow62 j (by omega)
      obtain ⟨q3, q4⟩ := pow62 (j + 1) (by omega)
      have HE : Hid ((2 : Int) ^ (j + 1) = 2 ^ j * 2) := Int.pow_succ ..
      rw [Int.pow_succ] at q3 q4
      generalize (2 : Int) ^ j = P at *
      go_wp2
      go_round
      case rel => exact ⟨j + 1, by omega, by go_num, by rw [HE.out]⟩
      case measure => simp [intOf]; omega
    · obtain rfl : j = k := by omega
      go_wp2_with fail
      refine hc.mono ?_
      rintro e w1 ⟨rfl, hw1⟩
      go_wp2
      go_ret2
      exact ⟨rfl, hw1⟩

theorem refNear_any (x d : Int) (w : World) (hx : I64 x) (hd : I64 d) :
    Calls Tryd.prog 45 #[.int .i64 x, .int .i64 d] w fun e w' => e = .returned (.tuple #[.int .i64 (nrQ x d), .int .i64 (flE d)]) ∧ Drew w w' := by
  unfold nrQ flE
  rcases Int.lt_or_le d 1 with h | h
  · rw [if_pos h, if_pos h]; exact refNear_bad x d w h
  · rw [if_neg (by omega), if_neg (by omega)]; exact refNear_ok x d w hx h hd.2
theorem refRound_any (x s : Int) (w : World) (hx : I64 x) :
    Calls Tryd.prog 27 #[.int .i64 x, .int .i64 s] w fun e w' => e = .returned (.tuple #[.int .i64 (rdQ x s), .int .i64 (rdE s)]) ∧ Drew w w' := by
  unfold rdQ rdE
  by_cases h : s < 0 ∨ 62 < s
  · rw [if_pos h, if_pos h]; exact refRound_bad x s w h
  · rw [if_neg h, if_neg h]
    have := refRound_ok x s.toNat w hx (by omega)
    rwa [show ((s.toNat : Nat) : Int) = s by omega] at this

end Go.Proofs.YtbppahmcjifflaaDoor
