/-
  What tables are, in the form in which the statements ask for them.
-/
import Derived.Test.YtkemaofclahaiaaDoorRof
import Derived.Test.YtkemaofclahaiaaDoorRog
import Derived.Test.YtkemaofclahaiaaDoorCut8
namespace Go.Proofs.YtkemaofclahaiaaDoor
open Go.RowKit Go.Lib Go.Maps

theorem cosL_fits (places half num den : Int) : (cosL places half num den).length * 1 ≤ 140737488351232 := by have := cosL_len places half num den; omega
theorem sinL_fits (places half num den : Int) : (sinL places half num den).length * 1 ≤ 140737488351232 := by have := cosL_len places half num den; rw [sinL_len]; omega
theorem Gives2.tab {places half num den E : Int} {w w' : World} {x : Ending} (h : Gives2 (cosL places half num den) (sinL places half num den) E w x w') :
    ∃ u v, x = .returned (.tuple #[u, v, zV E]) ∧ Rk .i8 (fun b => w.heap.size ≤ b ∧ b < w'.heap.size) w' u (cosL places half num den) ∧ Rk .i8 (fun b => w.heap.size ≤ b ∧ b < w'.heap.size) w' v (sinL places half num den) ∧ Fresh w w' :=
  h.rows (cosL_fits _ _ _ _) (sinL_fits _ _ _ _) (cosL_c8 _ _ _ _) (sinL_c8 _ _ _ _)
end Go.Proofs.YtkemaofclahaiaaDoor
