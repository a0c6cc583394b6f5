/-
  Near of the program and of the document; 'awake'.
-/
import Derived.Test.YtmkaafnoanidpaaDoorSu
import Derived.Test.YtmkaafnoanidpaaDoorRr
import Derived.Test.YtmkaafnoanidpaaDoorNz
namespace Go.Proofs.YtmkaafnoanidpaaDoor
open Go.RowKit Ieee

/-- What Near says. -/
def nearB (m e : Int) : Nat := single.nearest (decide (m < 0)) m.natAbs e

set_option maxHeartbeats 800000 in
theorem Near_any (m e : Int) (w : World) (hS : Sing w) (hm : -9223372036854775808 ≤ m) (hm2 : m ≤ 9223372036854775807) :
    Calls Tryd.prog 30 #[.int .i64 m, .int .i64 e] w fun r w' => r = .returned (.int .u32 (nearB m e : Nat)) ∧ Fresh w w' := by
  obtain ⟨s0, s1⟩ := hS
  unfold nearB
  obtain ⟨M, hM⟩ : ∃ M, M = m.natAbs := ⟨_, rfl⟩
  rw [← hM]
  have hM2 : M < 18446744073709551616 := by omega
  rcases Int.lt_or_le m 0 with h | h
  · have a1 : IntKind.u64.wrap (-(IntKind.u64.wrap m)) = (M : Int) := by rw [IntKind.wrap_u64, IntKind.wrap_u64]; omega
    rw [decide_eq_true h]
    have HM := show Hid _ from hM
    clear hM
    go_enter Tryd.func30, Tryd.ntmps30
    go_wp2_with fail
    refine (nearA_single _ _ _ _ hM2).mono ?_
    rintro r w1 ⟨rfl, h1⟩
    go_wp2
    go_ret
    exact ⟨rfl, h1⟩
  · have a1 : IntKind.u64.wrap m = (M : Int) := by rw [IntKind.wrap_u64]; omega
    obtain rfl : m = (M : Int) := by omega
    rw [decide_eq_false (by omega)]
    have HM := show Hid _ from hM
    clear hM
    go_enter Tryd.func30, Tryd.ntmps30
    go_wp2_with fail
    refine (nearA_single _ _ _ _ hM2).mono ?_
    rintro r w1 ⟨rfl, h1⟩
    go_wp2
    go_ret
    exact ⟨rfl, h1⟩

set_option maxHeartbeats 1000000 in
theorem awake_any (w : World) (hS : Sing w) :
    Calls Tryd.prog 11 #[] w fun e w' => e = .returned (.bool true) ∧ Fresh w w' := by
  have ha : ∀ X, Sing X → Calls Tryd.prog 29 #[.int .u32 1065353216, .int .u32 1065353216] X fun r w' => r = .returned (.int .u32 1073741824) ∧ Fresh X w' := fun X hX => by
    have := add_any 1065353216 1065353216 X hX
    rw [show (toldOf (single.add 1065353216 1065353216)) = 1073741824 by decide +kernel] at this
    exact this
  have hb : ∀ X, Sing X → Calls Tryd.prog 30 #[.int .i64 3, .int .i64 (-1)] X fun r w' => r = .returned (.int .u32 1069547520) ∧ Fresh X w' := fun X hX => by
    have := Near_any 3 (-1) X hX (by decide) (by decide)
    rw [show nearB 3 (-1) = 1069547520 by decide +kernel] at this
    exact this
  have HA := show Hid _ from ha
  have HB := show Hid _ from hb
  clear ha hb
  go_enter Tryd.func11, Tryd.ntmps11
  go_wp2_with fail
  refine (HA.out _ hS).mono ?_
  rintro r w1 ⟨rfl, h1⟩
  go_wp2_with fail
  refine (HB.out _ (hS.fresh h1)).mono ?_
  rintro r w2 ⟨rfl, h2⟩
  go_wp2
  go_ret
  exact ⟨rfl, h1.trans h2 (fun _ _ e => e)⟩

end Go.Proofs.YtmkaafnoanidpaaDoor
