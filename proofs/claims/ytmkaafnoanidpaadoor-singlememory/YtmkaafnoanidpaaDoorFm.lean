/-
  The calls on a format: what they answer, and that they make nothing but new memory.
-/
import Derived.Test.YtmkaafnoanidpaaDoorChecked
import Derived.Test.YtmkaafnoanidpaaDoorBase
import Derived.Test.YtmkaafnoanidpaaDoorSn
import Derived.Deep.RegionHeld3
import Derived.BigQuiet
namespace Go.Proofs.YtmkaafnoanidpaaDoor
open Go.RowKit

/-- A format as a value. -/
abbrev fmtV (e f : Int) : Value := .agg #[.int .i64 e, .int .i64 f]

set_option maxHeartbeats 400000 in
theorem sign_single (w : World) :
    Calls Tryd.prog 54 #[fmtV 8 23] w fun e w' => e = .returned (.int .u32 2147483648) ∧ Fresh w w' := by
  go_enter Tryd.func54, Tryd.ntmps54
  go_wp2
  go_ret
  exact ⟨rfl, (Kept.refl _ _).alloc _⟩
set_option maxHeartbeats 400000 in
theorem infinite_single (w : World) :
    Calls Tryd.prog 43 #[fmtV 8 23] w fun e w' => e = .returned (.int .u32 2139095040) ∧ Fresh w w' := by
  go_enter Tryd.func43, Tryd.ntmps43
  go_wp2
  go_region
  go_wp2
  go_ret
  exact ⟨rfl, ((Kept.refl _ _).alloc _).drew⟩
set_option maxHeartbeats 400000 in
theorem least_single (w : World) :
    Calls Tryd.prog 56 #[fmtV 8 23] w fun e w' => e = .returned (.int .i64 (-149)) ∧ Fresh w w' := by
  go_enter Tryd.func56, Tryd.ntmps56
  go_wp2
  go_region
  go_wp2
  go_ret
  exact ⟨rfl, ((Kept.refl _ _).alloc _).drew⟩

set_option maxHeartbeats 400000 in
theorem sign_half (w : World) :
    Calls Tryd.prog 54 #[fmtV 5 10] w fun e w' => e = .returned (.int .u32 32768) ∧ Fresh w w' := by
  go_enter Tryd.func54, Tryd.ntmps54
  go_wp2
  go_ret
  exact ⟨rfl, (Kept.refl _ _).alloc _⟩
set_option maxHeartbeats 400000 in
theorem infinite_half (w : World) :
    Calls Tryd.prog 43 #[fmtV 5 10] w fun e w' => e = .returned (.int .u32 31744) ∧ Fresh w w' := by
  go_enter Tryd.func43, Tryd.ntmps43
  go_wp2
  go_region
  go_wp2
  go_ret
  exact ⟨rfl, ((Kept.refl _ _).alloc _).drew⟩
set_option maxHeartbeats 400000 in
theorem least_half (w : World) :
    Calls Tryd.prog 56 #[fmtV 5 10] w fun e w' => e = .returned (.int .i64 (-24)) ∧ Fresh w w' := by
  go_enter Tryd.func56, Tryd.ntmps56
  go_wp2
  go_region
  go_wp2
  go_ret
  exact ⟨rfl, ((Kept.refl _ _).alloc _).drew⟩

set_option maxHeartbeats 400000 in
theorem sign_brain (w : World) :
    Calls Tryd.prog 54 #[fmtV 8 7] w fun e w' => e = .returned (.int .u32 32768) ∧ Fresh w w' := by
  go_enter Tryd.func54, Tryd.ntmps54
  go_wp2
  go_ret
  exact ⟨rfl, (Kept.refl _ _).alloc _⟩
set_option maxHeartbeats 400000 in
theorem infinite_brain (w : World) :
    Calls Tryd.prog 43 #[fmtV 8 7] w fun e w' => e = .returned (.int .u32 32640) ∧ Fresh w w' := by
  go_enter Tryd.func43, Tryd.ntmps43
  go_wp2
  go_region
  go_wp2
  go_ret
  exact ⟨rfl, ((Kept.refl _ _).alloc _).drew⟩
set_option maxHeartbeats 400000 in
theorem least_brain (w : World) :
    Calls Tryd.prog 56 #[fmtV 8 7] w fun e w' => e = .returned (.int .i64 (-133)) ∧ Fresh w w' := by
  go_enter Tryd.func56, Tryd.ntmps56
  go_wp2
  go_region
  go_wp2
  go_ret
  exact ⟨rfl, ((Kept.refl _ _).alloc _).drew⟩

/-- What a walk holds of the format that it laid in a block of its own. -/
abbrev BoxAt (b : Nat) (e f : Int) (W0 W : World) : Prop := (W.cell? ⟨b, 0, none⟩ = some (.int .i64 e) ∧ W.cell? ⟨b, 1, none⟩ = some (.int .i64 f)) ∧ Fresh W0 W
theorem BoxAt.fresh {b : Nat} {e f : Int} {W0 W W' : World} (h : BoxAt b e f W0 W) (hk : Fresh W W') : BoxAt b e f W0 W' := by
  obtain ⟨⟨h0, h1⟩, h2⟩ := h
  exact ⟨⟨(hk.cell (p := ⟨b, 0, none⟩) (World.block_lt_of_cell? W _ h0) (fun e => e)).trans h0, (hk.cell (p := ⟨b, 1, none⟩) (World.block_lt_of_cell? W _ h1) (fun e => e)).trans h1⟩, h2.trans hk (fun _ _ e => e)⟩
theorem BoxAt.new (w : World) (e f : Int) (t : TypeId) : BoxAt w.heap.size e f w (w.alloc (.cells #[.int .i64 e, .int .i64 f] t)) :=
  ⟨⟨by simp, by simp⟩, (Kept.refl _ _).alloc _⟩

set_option maxHeartbeats 1000000 in
theorem none_single (w : World) :
    Calls Tryd.prog 51 #[fmtV 8 23] w fun e w' => e = .returned (.int .u32 2143289344) ∧ Fresh w w' := by
  have hB := BoxAt.new w 8 23 71
  have hw1 : IntKind.i64.wrap 22 = 22 := by decide
  go_enter Tryd.func51, Tryd.ntmps51
  go_wp2_with fail
  go_region_with (first | (go_at_call 43; refine (infinite_single _).mono ?_; rintro e X ⟨rfl, hX⟩; have hS' := hB.fresh (hX.undrew); obtain ⟨⟨q0, q1⟩, q2⟩ := id hS'))
  all_goals
    go_wp2
    go_ret
    exact ⟨rfl, q2⟩

set_option maxHeartbeats 1000000 in
theorem none_half (w : World) :
    Calls Tryd.prog 51 #[fmtV 5 10] w fun e w' => e = .returned (.int .u32 32256) ∧ Fresh w w' := by
  have hB := BoxAt.new w 5 10 71
  have hw1 : IntKind.i64.wrap 9 = 9 := by decide
  go_enter Tryd.func51, Tryd.ntmps51
  go_wp2_with fail
  go_region_with (first | (go_at_call 43; refine (infinite_half _).mono ?_; rintro e X ⟨rfl, hX⟩; have hS' := hB.fresh (hX.undrew); obtain ⟨⟨q0, q1⟩, q2⟩ := id hS'))
  all_goals
    go_wp2
    go_ret
    exact ⟨rfl, q2⟩

set_option maxHeartbeats 1000000 in
theorem none_brain (w : World) :
    Calls Tryd.prog 51 #[fmtV 8 7] w fun e w' => e = .returned (.int .u32 32704) ∧ Fresh w w' := by
  have hB := BoxAt.new w 8 7 71
  have hw1 : IntKind.i64.wrap 6 = 6 := by decide
  go_enter Tryd.func51, Tryd.ntmps51
  go_wp2_with fail
  go_region_with (first | (go_at_call 43; refine (infinite_brain _).mono ?_; rintro e X ⟨rfl, hX⟩; have hS' := hB.fresh (hX.undrew); obtain ⟨⟨q0, q1⟩, q2⟩ := id hS'))
  all_goals
    go_wp2
    go_ret
    exact ⟨rfl, q2⟩

end Go.Proofs.YtmkaafnoanidpaaDoor
