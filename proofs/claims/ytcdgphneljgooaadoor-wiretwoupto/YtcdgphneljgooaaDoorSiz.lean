/-
  What the rows' list gives: the table of sizes lies in its block; and a world for the witnesses.
-/
import Derived.Test.YtcdgphneljgooaaDoorFrame
import Derived.Test.YtcdgphneljgooaaDoorAwake
namespace Go.Proofs.YtcdgphneljgooaaDoor
open Go.ChangeShapes Go.WideShapes Go.ChangeAt Go.RowKit

theorem gSizes : Tryd.prog.globalNamed (Rows.wireSumsRow.named.headD "") = some 0 := by kernel_rfl
theorem gSizesType : (Tryd.prog.globals[0]?).map (·.type) = some 83 := by kernel_rfl
theorem cellsA : Tryd.prog.cellsOf 83 = 4 := by kernel_rfl
theorem cellsI : Tryd.prog.cellsOf 3 = 1 := by kernel_rfl

theorem siz_of_laid {W : World} (h : laidMetH Tryd.prog Rows.wireSumsRow.laid W) : Siz W := by
  have ht : Lib.TabIs Tryd.prog W (Rows.wireSumsRow.named.headD "") .i64 [1, 2, 4, 8] := Lib.tabIs_of_head (rest := []) gSizes gSizesType Tryd.underlying83 Tryd.underlying3 cellsI cellsA h
  exact ⟨ht.cell gSizes 0 (by decide), ht.cell gSizes 1 (by decide), ht.cell gSizes 2 (by decide), ht.cell gSizes 3 (by decide)⟩

/-- A world for the witnesses: the table holding what its initialiser lays. -/
def layIn (w : World) : World :=
  { w with heap := w.heap.modify 0 fun
      | .cells _ t frozen => .cells #[.int .i64 1, .int .i64 2, .int .i64 4, .int .i64 8] t frozen
      | o => o }

end Go.Proofs.YtcdgphneljgooaaDoor
