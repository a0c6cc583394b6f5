/-
  What the rows' list gives: the array of the three constants lies in its block; and a world for the witnesses.
-/
import Derived.Test.YtomlkdahinemmaaDoorFrame
import Derived.Test.YtomlkdahinemmaaDoorAw
namespace Go.Proofs.YtomlkdahinemmaaDoor
open Go.ChangeShapes Go.WideShapes Go.ChangeAt Go.RowKit

theorem gBend : Tryd.prog.globalNamed (Rows.fixedNearestRow.named.headD "") = some 0 := by kernel_rfl
theorem gBendType : (Tryd.prog.globals[0]?).map (·.type) = some 57 := by kernel_rfl
theorem cellsA : Tryd.prog.cellsOf 57 = 3 := by kernel_rfl
theorem cellsI : Tryd.prog.cellsOf 2 = 1 := by kernel_rfl

theorem bend_of_laid {W : World} (h : laidMetH Tryd.prog Rows.fixedNearestRow.laid W) : Bend W := by
  have ht : Lib.TabIs Tryd.prog W (Rows.fixedNearestRow.named.headD "") .i64 [84941200, 241400000, 747400624] := Lib.tabIs_of_head (rest := []) gBend gBendType Tryd.underlying57 Tryd.underlying2 cellsI cellsA h
  exact ⟨ht.cell gBend 0 (by decide), ht.cell gBend 1 (by decide), ht.cell gBend 2 (by decide)⟩

/-- A world for the witnesses: the array holding what its initialiser lays. -/
def layIn (w : World) : World :=
  { w with heap := w.heap.modify 0 fun
      | .cells _ t frozen => .cells #[.int .i64 84941200, .int .i64 241400000, .int .i64 747400624] t frozen
      | o => o }

theorem i64_of {x : Int} (h : (Lit.int .i64 x).wf = true) : I64 x := by
  have := bounds_i64 h
  exact ⟨by omega, by omega⟩

end Go.Proofs.YtomlkdahinemmaaDoor
