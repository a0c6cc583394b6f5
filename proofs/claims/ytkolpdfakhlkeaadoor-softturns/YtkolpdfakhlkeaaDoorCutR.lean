/-
  A part of a row, its run as an equation for every world.
-/
import Derived.Test.YtkolpdfakhlkeaaDoorGvs
import Derived.ArgAppend
namespace Go.Proofs.YtkolpdfakhlkeaaDoor
open Go.RowKit Go.Lib Go.Maps

theorem wrapId {x : Int} (h0 : -9223372036854775808 ≤ x) (h1 : x ≤ 9223372036854775807) : IntKind.i64.wrap x = x := by rw [IntKind.wrap_i64]; omega
/-- x[A : A + h]. -/
theorem run_cut8 (b off n cap A h : Nat) (hh : 1 ≤ h) (hc : A + h ≤ cap) (W : World) : (Instr.slice 31 (.slice (some ⟨b, off, none⟩) n cap) (some (.int .i64 (A : Int))) (some (.int .i64 ((A : Int) + (h : Int)))) none).run Tryd.prog W = .ok (.slice (some ⟨b, off + A, none⟩) h (cap - A)) W := by
  have hu : Tryd.prog.underlying 31 = some (.slice (Tryd.prog.elem 31)) := by simp [Program.elem, Tryd.underlying31]
  have he : Tryd.prog.elem 31 = 32 := by simp [Program.elem, Tryd.underlying31]
  have hz : (sizeOf 32).run Tryd.prog W = .ok 1 W := by kernel_rfl
  rw [run_slice_lh (P := Tryd.prog) W 31 _ n cap hu .i64 .i64 (A : Int) ((A : Int) + (h : Int)) (by omega) (by omega) (by omega), he, hz]
  have e1 : ((A : Int) + (h : Int)).toNat = A + h := by omega
  have e2 : ¬ cap = A := by omega
  simp [sliced, e1, e2, Result.andThen, Addr.add_lit]
end Go.Proofs.YtkolpdfakhlkeaaDoor
