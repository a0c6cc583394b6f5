/-
  What tables are, in the form in which the statements ask for them.
-/
import Derived.Test.YtkemaofclahaiaaDoorRof
import Derived.Test.YtkemaofclahaiaaDoorRog
namespace Go.Proofs.YtkemaofclahaiaaDoor
open Go.RowKit Go.Lib Go.Maps

theorem cosL_fits (places half num den : Int) : (cosL places half num den).length * 1 ≤ 140737488351232 := by have := cosL_len places half num den; omega
theorem sinL_fits (places half num den : Int) : (sinL places half num den).length * 1 ≤ 140737488351232 := by have := cosL_len places half num den; rw [sinL_len]; omega
theorem Gives2.tab {places half num den E : Int} {w w' : World} {x : Ending} (h : Gives2 (cosL places half num den) (sinL places half num den) E w x w') :
    ∃ u v, x = .returned (.tuple #[u, v, zV E]) ∧ Rk .i8 (fun b => w.heap.size ≤ b ∧ b < w'.heap.size) w' u (cosL places half num den) ∧ Rk .i8 (fun b => w.heap.size ≤ b ∧ b < w'.heap.size) w' v (sinL places half num den) ∧ Fresh w w' :=
  h.rows (cosL_fits _ _ _ _) (sinL_fits _ _ _ _) (cosL_c8 _ _ _ _) (sinL_c8 _ _ _ _)
/-- A row's beginning. -/
theorem Rk.pre {k : IntKind} {p : Nat → Prop} {w : World} {b off n cap : Nat} {zs : List Int} (h : Rk k p w (.slice (some ⟨b, off, none⟩) n cap) zs) (m : Nat) (hm : m ≤ n) : Rk k p w (.slice (some ⟨b, off, none⟩) m cap) (zs.take m) := by
  have := h.cut 0 m (by omega)
  rwa [Nat.add_zero, Nat.sub_zero, List.drop_zero] at this
/-- x[A : A + h]. -/
theorem run_cut8 (b off n cap A h : Nat) (hh : 1 ≤ h) (hc : A + h ≤ cap) (W : World) : (Instr.slice 22 (.slice (some ⟨b, off, none⟩) n cap) (some (.int .i64 (A : Int))) (some (.int .i64 ((A : Int) + (h : Int)))) none).run Tryd.prog W = .ok (.slice (some ⟨b, off + A, none⟩) h (cap - A)) W := by
  have hu : Tryd.prog.underlying 22 = some (.slice (Tryd.prog.elem 22)) := by simp [Program.elem, Tryd.underlying22]
  have he : Tryd.prog.elem 22 = 33 := by simp [Program.elem, Tryd.underlying22]
  have hz : (sizeOf 33).run Tryd.prog W = .ok 1 W := by kernel_rfl
  rw [run_slice_lh (P := Tryd.prog) W 22 _ n cap hu .i64 .i64 (A : Int) ((A : Int) + (h : Int)) (by omega) (by omega) (by omega), he, hz]
  have e1 : ((A : Int) + (h : Int)).toNat = A + h := by omega
  have e2 : ¬ cap = A := by omega
  simp [sliced, e1, e2, Result.andThen, Addr.add_lit]
end Go.Proofs.YtkemaofclahaiaaDoor
