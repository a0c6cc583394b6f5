/-
  What tables are, in the form in which the statements ask for them.
-/
import Derived.Test.YtkemaofclahaiaaDoorRof
import Derived.Test.YtkemaofclahaiaaDoorRog
namespace Go.Proofs.YtkemaofclahaiaaDoor
open Go.RowKit Go.Lib Go.Maps

theorem cosL_fits (places half num den : Int) : (cosL places half num den).length * 1 ≤ 140737488351232 := by have := cosL_len places half num den; omega
theorem sinL_fits (places half num den : Int) : (sinL places half num den).length * 1 ≤ 140737488351232 := by have := cosL_len places half num den; rw [sinL_len]; omega
theorem Gives2.tab {places half num den E : Int} {w w' : World} {x : Ending} (h : Gives2 (cosL places half num den) (sinL places half num den) E w x w') :
    ∃ u v, x = .returned (.tuple #[u, v, zV E]) ∧ Rk .i8 (fun b => w.heap.size ≤ b ∧ b < w'.heap.size) w' u (cosL places half num den) ∧ Rk .i8 (fun b => w.heap.size ≤ b ∧ b < w'.heap.size) w' v (sinL places half num den) ∧ Fresh w w' :=
  h.rows (cosL_fits _ _ _ _) (sinL_fits _ _ _ _) (cosL_c8 _ _ _ _) (sinL_c8 _ _ _ _)
/-- A row's beginning. -/
theorem Rk.pre {k : IntKind} {p : Nat → Prop} {w : World} {b off n cap : Nat} {zs : List Int} (h : Rk k p w (.slice (some ⟨b, off, none⟩) n cap) zs) (m : Nat) (hm : m ≤ n) : Rk k p w (.slice (some ⟨b, off, none⟩) m cap) (zs.take m) := by
  have := h.cut 0 m (by omega)
  rwa [Nat.add_zero, Nat.sub_zero, List.drop_zero] at this
end Go.Proofs.YtkemaofclahaiaaDoor
