/-
  DERIVED. GIVEN WITH THE SEED: THE PROGRAM's TIES (one call each: nine closed facts by the kernel) AND EACH ROW's TIE, after the 31st guide's Derived/Test/Toyas{Tie, Card}.lean. No idea stands in it: it is a product of the set-up. Laid BY PROGRAM, IN A SANDBOX (cutbox-door.mjs). By AI agents, Wed Nov 11 2026. No macro, syntax, notation, axiom, sorry.
-/
import Derived.Test.YtagbjlkpmjbfnacDoorRows
import Derived.LaidByTextLater
import Derived.SevenTiedAt
import Derived.LaidSub
import Derived.LaidOnce
namespace Go.Proofs.YtagbjlkpmjbfnacDoor
open Go
set_option maxRecDepth 100000
theorem seatTie1 : Tryd.prog.laidByTextLater [("math/bits.deBruijn32tab", Rows.laid_math_bits_deBruijn32tab), ("herald/single.singles", Rows.laid_herald_single_singles), ("herald/single.halves", Rows.laid_herald_single_halves), ("herald/single.brains", Rows.laid_herald_single_brains)] [.data, .wider, .wider, .wider] true :=
  Program.laidByTextLater_by_one 29 8 33 (by kernel_rfl) (by kernel_rfl) (by kernel_rfl) (by kernel_rfl) (by kernel_rfl) (by kernel_rfl) (fun _ _ => by kernel_rfl)
theorem noOwnUnsafe : Tryd.pinned.checked.prog.headLifts.contains "ownunsafe" = false := by kernel_rfl
theorem tie : Tryd.prog.laidByTextLater [("math/bits.deBruijn32tab", Rows.laid_math_bits_deBruijn32tab), ("herald/single.singles", Rows.laid_herald_single_singles), ("herald/single.halves", Rows.laid_herald_single_halves), ("herald/single.brains", Rows.laid_herald_single_brains)] [.data, .wider, .wider, .wider] true :=
  Program.laidByTextLater.sub seatTie1 ["math/bits.deBruijn32tab", "herald/single.singles", "herald/single.halves", "herald/single.brains"] (by kernel_rfl) (by kernel_rfl)
theorem singleFormats_row_tie : Rows.singleFormatsRow.laidByTextAt .later Tryd.pinned [.data, .wider, .wider, .wider] true :=
  OpenClaim.laidByTextAt_later rfl rfl tie noOwnUnsafe
theorem singleHalves_row_tie : Rows.singleHalvesRow.laidByTextAt .later Tryd.pinned [.data, .wider, .wider, .wider] true :=
  OpenClaim.laidByTextAt_later rfl rfl tie noOwnUnsafe
theorem tie2 : Tryd.prog.laidByTextLater [("herald/single.singles", Rows.laid_herald_single_singles)] [.wider] true :=
  Program.laidByTextLater.sub seatTie1 ["herald/single.singles"] (by kernel_rfl) (by kernel_rfl)
theorem singleAt_row_tie : Rows.singleAtRow.laidByTextAt .later Tryd.pinned [.wider] true :=
  OpenClaim.laidByTextAt_later rfl rfl tie2 noOwnUnsafe
theorem singleFormatsUpto_row_tie : Rows.singleFormatsUptoRow.laidByTextAt .later Tryd.pinned [.data, .wider, .wider, .wider] true :=
  OpenClaim.laidByTextAt_later rfl rfl tie noOwnUnsafe
theorem singleHalvesUpto_row_tie : Rows.singleHalvesUptoRow.laidByTextAt .later Tryd.pinned [.data, .wider, .wider, .wider] true :=
  OpenClaim.laidByTextAt_later rfl rfl tie noOwnUnsafe
theorem singleAtUpto_row_tie : Rows.singleAtUptoRow.laidByTextAt .later Tryd.pinned [.wider] true :=
  OpenClaim.laidByTextAt_later rfl rfl tie2 noOwnUnsafe
end Go.Proofs.YtagbjlkpmjbfnacDoor
