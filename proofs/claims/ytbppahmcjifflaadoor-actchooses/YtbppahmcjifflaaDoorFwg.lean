/-
  Floor, the document's.
-/
import Derived.Test.YtbppahmcjifflaaDoorFwf
namespace Go.Proofs.YtbppahmcjifflaaDoor
open Go.RowKit

set_option maxHeartbeats 400000 in
theorem refFloor_bad (x d : Int) (w : World) (hd : d < 1) :
    Calls Tryd.prog 60 #[.int .i64 x, .int .i64 d] w fun e w' => e = .returned (.tuple #[.int .i64 0, .int .i64 0, .int .i64 21]) ∧ Drew w w' := by
  go_enter Tryd.func60, Tryd.ntmps60
  go_wp2
  go_ret3
  exact ⟨rfl, Drew.refl _⟩

set_option maxHeartbeats 400000 in
theorem refFloor_ok (x d : Int) (w : World) (hx : I64 x) (hd : 1 ≤ d) (hd' : d ≤ 9223372036854775807) :
    Calls Tryd.prog 60 #[.int .i64 x, .int .i64 d] w fun e w' => e = .returned (.tuple #[.int .i64 (x / d), .int .i64 (x % d), .int .i64 0]) ∧ Drew w w' := by
  obtain ⟨x0, x1⟩ := hx
  obtain ⟨f1, f2⟩ := tdiv_floor x d hd
  obtain ⟨b0, b1⟩ := ediv_bounds x d hd x0 x1
  obtain ⟨m0, m1⟩ := tmod_bounds x d hd
  rcases Int.lt_or_le (x.tmod d) 0 with h | h
  · obtain ⟨e1, e2⟩ := f1 h
    rw [← e1, ← e2]
    rw [← e1] at b0 b1
    clear e1 e2 f1 f2
    go_enter Tryd.func60, Tryd.ntmps60
    go_wp2
    go_ret3
    exact ⟨rfl, Drew.refl _⟩
  · obtain ⟨e1, e2⟩ := f2 h
    rw [← e1, ← e2]
    rw [← e1] at b0 b1
    clear e1 e2 f1 f2
    go_enter Tryd.func60, Tryd.ntmps60
    go_wp2
    go_ret3
    exact ⟨rfl, Drew.refl _⟩

theorem refFloor_any (x d : Int) (w : World) (hx : I64 x) (hd : I64 d) :
    Calls Tryd.prog 60 #[.int .i64 x, .int .i64 d] w fun e w' => e = .returned (.tuple #[.int .i64 (flQ x d), .int .i64 (flR x d), .int .i64 (flE d)]) ∧ Drew w w' := by
  unfold flQ flR flE
  rcases Int.lt_or_le d 1 with h | h
  · rw [if_pos h, if_pos h, if_pos h]; exact refFloor_bad x d w h
  · rw [if_neg (by omega), if_neg (by omega), if_neg (by omega)]; exact refFloor_ok x d w hx h hd.2
end Go.Proofs.YtbppahmcjifflaaDoor
