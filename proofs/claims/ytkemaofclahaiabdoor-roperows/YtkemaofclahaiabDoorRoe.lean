/-
  Stretched and Table, the package's.
-/
import Derived.Test.YtkemaofclahaiabDoorRoa
import Derived.Test.YtkemaofclahaiabDoorGr2
import Derived.Deep.DeepCutAuto
namespace Go.Proofs.YtkemaofclahaiabDoor
open Go.RowKit Go.Lib Go.Maps

theorem paired_any (n : Int) (w : World) : Calls Tryd.prog 12 #[zV n] w fun e w' => e = .returned (.bool (decide (1 ≤ n) && decide (n ≤ 32))) ∧ w' = w := by
  by_cases h : 1 ≤ n
  · rw [show decide (1 ≤ n) = true by simp [h], Bool.true_and]
    go_enter Tryd.func12, Tryd.ntmps12
    go_wp2
    go_ret
    exact ⟨rfl, rfl⟩
  · rw [show decide (1 ≤ n) = false by simp; omega, Bool.false_and]
    go_enter Tryd.func12, Tryd.ntmps12
    go_wp2
    go_ret
    exact ⟨rfl, rfl⟩
end Go.Proofs.YtkemaofclahaiabDoor
