/-
  Clamp, Narrow and Add, the packages' and the document's.
-/
import Derived.Test.YtbppahmcjifflaaDoorFwr
namespace Go.Proofs.YtbppahmcjifflaaDoor
open Go.ChangeShapes Go.WideShapes Go.ChangeAt Go.RowKit

def clamp (x lo hi : Int) : Int := if x < lo then lo else if hi < x then hi else x

set_option maxHeartbeats 400000 in
theorem clamp_any (x lo hi : Int) (w : World) :
    Calls Tryd.prog 62 #[.int .i64 x, .int .i64 lo, .int .i64 hi] w fun e w' => e = .returned (.int .i64 (clamp x lo hi)) ∧ Drew w w' := by
  unfold clamp
  by_cases h1 : x < lo
  · rw [if_pos h1]
    go_enter Tryd.func62, Tryd.ntmps62
    go_wp2
    go_ret
    exact ⟨rfl, Drew.refl _⟩
  · rw [if_neg h1]
    by_cases h2 : hi < x
    · rw [if_pos h2]
      go_enter Tryd.func62, Tryd.ntmps62
      go_wp2
      go_ret
      exact ⟨rfl, Drew.refl _⟩
    · rw [if_neg h2]
      go_enter Tryd.func62, Tryd.ntmps62
      go_wp2
      go_ret
      exact ⟨rfl, Drew.refl _⟩
set_option maxHeartbeats 400000 in
theorem refClamp_any (x lo hi : Int) (w : World) :
    Calls Tryd.prog 46 #[.int .i64 x, .int .i64 lo, .int .i64 hi] w fun e w' => e = .returned (.int .i64 (clamp x lo hi)) ∧ Drew w w' := by
  unfold clamp
  by_cases h1 : x < lo
  · rw [if_pos h1]
    go_enter Tryd.func46, Tryd.ntmps46
    go_wp2
    go_ret
    exact ⟨rfl, Drew.refl _⟩
  · rw [if_neg h1]
    by_cases h2 : hi < x
    · rw [if_pos h2]
      go_enter Tryd.func46, Tryd.ntmps46
      go_wp2
      go_ret
      exact ⟨rfl, Drew.refl _⟩
    · rw [if_neg h2]
      go_enter Tryd.func46, Tryd.ntmps46
      go_wp2
      go_ret
      exact ⟨rfl, Drew.refl _⟩
theorem clamp_bound (x : Int) : -127 ≤ clamp x (-127) 127 ∧ clamp x (-127) 127 ≤ 127 := by unfold clamp; split <;> (try split) <;> omega
set_option maxHeartbeats 400000 in
theorem narrow_any (x : Int) (w : World) :
    Calls Tryd.prog 44 #[.int .i64 x] w fun e w' => e = .returned (.int .i8 (clamp x (-127) 127)) ∧ Drew w w' := by
  have hb := clamp_bound x
  go_enter Tryd.func44, Tryd.ntmps44
  go_wp2_with fail
  refine (clamp_any _ _ _ _).mono ?_
  rintro e w1 ⟨rfl, h1⟩
  go_wp2
  go_ret
  exact ⟨rfl, h1⟩
set_option maxHeartbeats 400000 in
theorem refNarrow_any (x : Int) (w : World) :
    Calls Tryd.prog 28 #[.int .i64 x] w fun e w' => e = .returned (.int .i8 (clamp x (-127) 127)) ∧ Drew w w' := by
  have hb := clamp_bound x
  go_enter Tryd.func28, Tryd.ntmps28
  go_wp2_with fail
  refine (refClamp_any _ _ _ _).mono ?_
  rintro e w1 ⟨rfl, h1⟩
  go_wp2
  go_ret
  exact ⟨rfl, h1⟩

end Go.Proofs.YtbppahmcjifflaaDoor
