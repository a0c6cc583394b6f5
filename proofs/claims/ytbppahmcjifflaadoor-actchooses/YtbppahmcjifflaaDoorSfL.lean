/-
  The constants of Exp2, as the program's text lays them.
-/
import Derived.Test.YtbppahmcjifflaaDoorSfe
import Derived.Test.YtbppahmcjifflaaDoorTie
import Derived.Test.YtbppahmcjifflaaDoorCards
namespace Go.Proofs.YtbppahmcjifflaaDoor
open Go.ChangeShapes Go.WideShapes Go.ChangeAt Go.RowKit Go.Lib Go.Maps

theorem gBend : Tryd.prog.globalNamed (Rows.actTablesRow.named.headD "") = some 0 := by kernel_rfl
theorem gBendType : (Tryd.prog.globals[0]?).map (·.type) = some 103 := by kernel_rfl
theorem bend_of_laid {W : World} (h : laidMetH Tryd.prog Rows.actTablesRow.laid W) : Bend W := by
  have ht : Lib.TabIs Tryd.prog W (Rows.actTablesRow.named.headD "") .i64 [84941200, 241400000, 747400624] := Lib.tabIs_of_head (rest := []) gBend gBendType Tryd.underlying103 Tryd.underlying2 (by kernel_rfl) (by kernel_rfl) h
  exact ⟨ht.cell gBend 0 (by decide), ht.cell gBend 1 (by decide), ht.cell gBend 2 (by decide)⟩
end Go.Proofs.YtbppahmcjifflaaDoor
