/-
  What the rows' list gives: the table of sizes lies in its block; and a world for the witnesses.
-/
import Derived.Test.YtcdgphneljgooabDoorFrame
import Derived.Test.YtcdgphneljgooabDoorAwake
namespace Go.Proofs.YtcdgphneljgooabDoor
open Go.ChangeShapes Go.WideShapes Go.ChangeAt Go.RowKit

theorem gSizes : Tryd.prog.globalNamed (Rows.wireNilRow.named.headD "") = some 0 := by kernel_rfl
theorem gSizesType : (Tryd.prog.globals[0]?).map (·.type) = some 97 := by kernel_rfl
theorem cellsA : Tryd.prog.cellsOf 97 = 4 := by kernel_rfl
theorem cellsI : Tryd.prog.cellsOf 3 = 1 := by kernel_rfl

theorem siz_of_laid {W : World} (h : laidMetH Tryd.prog Rows.wireNilRow.laid W) : Siz W := by
  have ht : Lib.TabIs Tryd.prog W (Rows.wireNilRow.named.headD "") .i64 [1, 2, 4, 8] := Lib.tabIs_of_head (rest := []) gSizes gSizesType Tryd.underlying97 Tryd.underlying3 cellsI cellsA h
  exact ⟨ht.cell gSizes 0 (by decide), ht.cell gSizes 1 (by decide), ht.cell gSizes 2 (by decide), ht.cell gSizes 3 (by decide)⟩

/-- A world for the witnesses: the table holding what its initialiser lays. -/
def layIn (w : World) : World :=
  { w with heap := w.heap.modify 0 fun
      | .cells _ t frozen => .cells #[.int .i64 1, .int .i64 2, .int .i64 4, .int .i64 8] t frozen
      | o => o }

end Go.Proofs.YtcdgphneljgooabDoor
