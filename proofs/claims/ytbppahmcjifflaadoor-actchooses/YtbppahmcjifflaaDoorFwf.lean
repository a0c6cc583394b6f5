/-
  Floor, the package's.
-/
import Derived.Test.YtbppahmcjifflaaDoorChecked
import Derived.Test.YtbppahmcjifflaaDoorNum
import Derived.Test.YtbppahmcjifflaaDoorVca
import Derived.Deep.QuietTactic
import Derived.BigQuiet
namespace Go.Proofs.YtbppahmcjifflaaDoor
open Go.RowKit

/-- Nothing has turned but that orders were drawn. -/
abbrev Drew (w w' : World) : Prop := ∃ n, w' = w.drewN n
theorem Drew.refl (w : World) : Drew w w := ⟨0, rfl⟩
theorem Drew.trans {a b c : World} (h : Drew a b) (k : Drew b c) : Drew a c := by
  obtain ⟨n, rfl⟩ := h
  obtain ⟨m, rfl⟩ := k
  exact ⟨n + m, World.drewN_drewN ..⟩
theorem Drew.fresh {a b : World} (h : Drew a b) : Fresh a b := by
  obtain ⟨n, rfl⟩ := h
  exact ⟨rfl, rfl, rfl, Nat.le_refl _, fun _ _ _ => rfl⟩
theorem Drew.more {a b : World} (h : Drew a b) (n : Nat) : Drew a (b.drewN n) := h.trans ⟨n, rfl⟩


theorem ediv_half (x d : Int) (hx : I64 x) (hd : 2 ≤ d) : x / d ≤ 4611686018427387903 := by
  obtain ⟨x0, x1⟩ := hx
  have : x / d < 4611686018427387904 := by
    rw [Int.ediv_lt_iff_lt_mul (by omega)]
    have := Int.mul_le_mul_of_nonneg_left hd (show (0 : Int) ≤ 4611686018427387904 by omega)
    omega
  omega

set_option maxHeartbeats 400000 in
theorem floor_bad (x d : Int) (w : World) (hd : d < 1) :
    Calls Tryd.prog 74 #[.int .i64 x, .int .i64 d] w fun e w' => e = .returned (.tuple #[.int .i64 0, .int .i64 0, .int .i64 21]) ∧ Drew w w' := by
  go_enter Tryd.func74, Tryd.ntmps74
  go_wp2
  go_ret3
  exact ⟨rfl, Drew.refl _⟩

set_option maxHeartbeats 400000 in
theorem floor_ok (x d : Int) (w : World) (hx : I64 x) (hd : 1 ≤ d) (hd' : d ≤ 9223372036854775807) :
    Calls Tryd.prog 74 #[.int .i64 x, .int .i64 d] w fun e w' => e = .returned (.tuple #[.int .i64 (x / d), .int .i64 (x % d), .int .i64 0]) ∧ Drew w w' := by
  obtain ⟨x0, x1⟩ := hx
  obtain ⟨f1, f2⟩ := tdiv_floor x d hd
  obtain ⟨b0, b1⟩ := ediv_bounds x d hd x0 x1
  obtain ⟨m0, m1⟩ := tmod_bounds x d hd
  rcases Int.lt_or_le (x.tmod d) 0 with h | h
  · obtain ⟨e1, e2⟩ := f1 h
    rw [← e1, ← e2]
    rw [← e1] at b0 b1
    clear e1 e2 f1 f2
    go_enter Tryd.func74, Tryd.ntmps74
    go_wp2
    go_quiet (fail)
    go_wp2
    go_ret3
    exact ⟨rfl, _, rfl⟩
  · obtain ⟨e1, e2⟩ := f2 h
    rw [← e1, ← e2]
    rw [← e1] at b0 b1
    clear e1 e2 f1 f2
    go_enter Tryd.func74, Tryd.ntmps74
    go_wp2
    go_quiet (fail)
    go_wp2
    go_ret3
    exact ⟨rfl, _, rfl⟩

def flQ (x d : Int) : Int := if d < 1 then 0 else x / d
def flR (x d : Int) : Int := if d < 1 then 0 else x % d
def flE (d : Int) : Int := if d < 1 then 21 else 0

theorem floor_any (x d : Int) (w : World) (hx : I64 x) (hd : I64 d) :
    Calls Tryd.prog 74 #[.int .i64 x, .int .i64 d] w fun e w' => e = .returned (.tuple #[.int .i64 (flQ x d), .int .i64 (flR x d), .int .i64 (flE d)]) ∧ Drew w w' := by
  unfold flQ flR flE
  rcases Int.lt_or_le d 1 with h | h
  · rw [if_pos h, if_pos h, if_pos h]; exact floor_bad x d w h
  · rw [if_neg (by omega), if_neg (by omega), if_neg (by omega)]; exact floor_ok x d w hx h hd.2
end Go.Proofs.YtbppahmcjifflaaDoor
