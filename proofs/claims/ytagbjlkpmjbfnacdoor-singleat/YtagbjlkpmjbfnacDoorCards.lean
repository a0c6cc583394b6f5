/-
  DERIVED. GIVEN WITH THE SEED: THE CARDS: each row of YtagbjlkpmjbfnacDoorRows.lean that lists a variable, with what it lists TIED to the program's text (the seventh form; the later family's looks); each row that meets fmt, with fmt's text TOLD by the authors' own Lean function (tested against real Go, not proved from fmt's source: count such statements apart). THE CARD IS WHAT COUNTS. Prove the row's statement (the work); the ties are given (YtagbjlkpmjbfnacDoorTie.lean); close each card by the builder's one call (the guide's Derived/Test/ToyasCard.lean, 'card_holds'). Laid BY PROGRAM, IN A SANDBOX (cutbox-door.mjs). By AI agents, Wed Nov 11 2026. No macro, syntax, notation, axiom, sorry.
-/
import Derived.Test.YtagbjlkpmjbfnacDoorRows
import GoSem.ClaimSeven
namespace Go.Proofs.YtagbjlkpmjbfnacDoor
namespace Rows

/-- THE TIED CARD OF 'heraldlaw03.SingleFormats'. -/
def singleFormatsCard : Claim7 := { stood := { row := singleFormatsRow, standIns := [], harness := (true, "1e6cce8c6ab1f9c734f1ce1068a7c60d8d13770130320b750874a5e4470d9417"), looks := false }, kinds := [], alts := [], laidByText := true, laidKinds := [.data, .wider, .wider, .wider], laidTests := true, laidLooks := .later }
def SingleFormatsCardSaid : Prop := Claim7.holds Tryd.pinned (.plain (OpenSpec.ofChange singleFormatsSpec)) singleFormatsCard

/-- THE TIED CARD OF 'heraldlaw03.SingleHalves'. -/
def singleHalvesCard : Claim7 := { stood := { row := singleHalvesRow, standIns := [], harness := (true, "1e6cce8c6ab1f9c734f1ce1068a7c60d8d13770130320b750874a5e4470d9417"), looks := false }, kinds := [], alts := [], laidByText := true, laidKinds := [.data, .wider, .wider, .wider], laidTests := true, laidLooks := .later }
def SingleHalvesCardSaid : Prop := Claim7.holds Tryd.pinned (.plain (OpenSpec.ofChange singleHalvesSpec)) singleHalvesCard

/-- THE TIED CARD OF 'heraldlaw03.SingleAt'. -/
def singleAtCard : Claim7 := { stood := { row := singleAtRow, standIns := [], harness := (true, "1e6cce8c6ab1f9c734f1ce1068a7c60d8d13770130320b750874a5e4470d9417"), looks := false }, kinds := [], alts := [], laidByText := true, laidKinds := [.wider], laidTests := true, laidLooks := .later }
def SingleAtCardSaid : Prop := Claim7.holds Tryd.pinned (.plain (OpenSpec.ofChange singleAtSpec)) singleAtCard

/-- THE SECOND FORM's CARD OF 'heraldlaw03.SingleFormats'. -/
def singleFormatsUptoCard : Claim7 := { stood := { row := singleFormatsUptoRow, standIns := [], harness := (true, "1e6cce8c6ab1f9c734f1ce1068a7c60d8d13770130320b750874a5e4470d9417"), looks := false }, kinds := [], alts := [], laidByText := true, laidKinds := [.data, .wider, .wider, .wider], laidTests := true, laidLooks := .later }
def SingleFormatsUptoCardSaid : Prop := Claim7.holds Tryd.pinned (.plain (OpenSpec.upto singleFormatsSpec)) singleFormatsUptoCard

/-- THE SECOND FORM's CARD OF 'heraldlaw03.SingleHalves'. -/
def singleHalvesUptoCard : Claim7 := { stood := { row := singleHalvesUptoRow, standIns := [], harness := (true, "1e6cce8c6ab1f9c734f1ce1068a7c60d8d13770130320b750874a5e4470d9417"), looks := false }, kinds := [], alts := [], laidByText := true, laidKinds := [.data, .wider, .wider, .wider], laidTests := true, laidLooks := .later }
def SingleHalvesUptoCardSaid : Prop := Claim7.holds Tryd.pinned (.plain (OpenSpec.upto singleHalvesSpec)) singleHalvesUptoCard

/-- THE SECOND FORM's CARD OF 'heraldlaw03.SingleAt'. -/
def singleAtUptoCard : Claim7 := { stood := { row := singleAtUptoRow, standIns := [], harness := (true, "1e6cce8c6ab1f9c734f1ce1068a7c60d8d13770130320b750874a5e4470d9417"), looks := false }, kinds := [], alts := [], laidByText := true, laidKinds := [.wider], laidTests := true, laidLooks := .later }
def SingleAtUptoCardSaid : Prop := Claim7.holds Tryd.pinned (.plain (OpenSpec.upto singleAtSpec)) singleAtUptoCard
end Rows
end Go.Proofs.YtagbjlkpmjbfnacDoor
