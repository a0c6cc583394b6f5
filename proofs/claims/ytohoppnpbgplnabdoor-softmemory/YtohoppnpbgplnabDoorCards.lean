/-
  DERIVED. GIVEN WITH THE SEED: THE CARDS: each row of YtohoppnpbgplnabDoorRows.lean that lists a variable, with what it lists TIED to the program's text (the seventh form; the later family's looks); each row that meets fmt, with fmt's text TOLD by the authors' own Lean function (tested against real Go, not proved from fmt's source: count such statements apart). THE CARD IS WHAT COUNTS. Prove the row's statement (the work); the ties are given (YtohoppnpbgplnabDoorTie.lean); close each card by the builder's one call (the guide's Derived/Test/ToyasCard.lean, 'card_holds'). Laid BY PROGRAM, IN A SANDBOX (cutbox-door.mjs). By AI agents, Wed Nov 11 2026. No macro, syntax, notation, axiom, sorry.
-/
import Derived.Test.YtohoppnpbgplnabDoorRows
import GoSem.ClaimSeven
namespace Go.Proofs.YtohoppnpbgplnabDoor
namespace Rows

/-- THE TIED CARD OF 'heraldlaw11.SoftMemory'. -/
def softMemoryCard : Claim7 := { stood := { row := softMemoryRow, standIns := [], harness := (true, "0f51c17117485214562574d2dcb3d7f9a5e4b3ef68d2750a9a30f0b4ac09eb2a"), looks := false }, kinds := [], alts := [], laidByText := true, laidKinds := [.data], laidTests := true, laidLooks := .later }
def SoftMemoryCardSaid : Prop := Claim7.holds Tryd.pinned (.plain (OpenSpec.ofChange softMemorySpec)) softMemoryCard

/-- THE TIED CARD OF 'heraldlaw11.SoftMasks'. -/
def softMasksCard : Claim7 := { stood := { row := softMasksRow, standIns := [], harness := (true, "0f51c17117485214562574d2dcb3d7f9a5e4b3ef68d2750a9a30f0b4ac09eb2a"), looks := false }, kinds := [], alts := [], laidByText := true, laidKinds := [.data], laidTests := true, laidLooks := .later }
def SoftMasksCardSaid : Prop := Claim7.holds Tryd.pinned (.plain (OpenSpec.ofChange softMasksSpec)) softMasksCard

/-- THE TIED CARD OF 'heraldlaw11.SoftSames'. -/
def softSamesCard : Claim7 := { stood := { row := softSamesRow, standIns := [], harness := (true, "0f51c17117485214562574d2dcb3d7f9a5e4b3ef68d2750a9a30f0b4ac09eb2a"), looks := false }, kinds := [], alts := [], laidByText := true, laidKinds := [.data], laidTests := true, laidLooks := .later }
def SoftSamesCardSaid : Prop := Claim7.holds Tryd.pinned (.plain (OpenSpec.ofChange softSamesSpec)) softSamesCard

/-- THE SECOND FORM's CARD OF 'heraldlaw11.SoftMemory'. -/
def softMemoryUptoCard : Claim7 := { stood := { row := softMemoryUptoRow, standIns := [], harness := (true, "0f51c17117485214562574d2dcb3d7f9a5e4b3ef68d2750a9a30f0b4ac09eb2a"), looks := false }, kinds := [], alts := [], laidByText := true, laidKinds := [.data], laidTests := true, laidLooks := .later }
def SoftMemoryUptoCardSaid : Prop := Claim7.holds Tryd.pinned (.plain (OpenSpec.upto softMemorySpec)) softMemoryUptoCard

/-- THE SECOND FORM's CARD OF 'heraldlaw11.SoftMasks'. -/
def softMasksUptoCard : Claim7 := { stood := { row := softMasksUptoRow, standIns := [], harness := (true, "0f51c17117485214562574d2dcb3d7f9a5e4b3ef68d2750a9a30f0b4ac09eb2a"), looks := false }, kinds := [], alts := [], laidByText := true, laidKinds := [.data], laidTests := true, laidLooks := .later }
def SoftMasksUptoCardSaid : Prop := Claim7.holds Tryd.pinned (.plain (OpenSpec.upto softMasksSpec)) softMasksUptoCard

/-- THE SECOND FORM's CARD OF 'heraldlaw11.SoftSames'. -/
def softSamesUptoCard : Claim7 := { stood := { row := softSamesUptoRow, standIns := [], harness := (true, "0f51c17117485214562574d2dcb3d7f9a5e4b3ef68d2750a9a30f0b4ac09eb2a"), looks := false }, kinds := [], alts := [], laidByText := true, laidKinds := [.data], laidTests := true, laidLooks := .later }
def SoftSamesUptoCardSaid : Prop := Claim7.holds Tryd.pinned (.plain (OpenSpec.upto softSamesSpec)) softSamesUptoCard
end Rows
end Go.Proofs.YtohoppnpbgplnabDoor
