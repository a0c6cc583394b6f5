/-
  DERIVED. GIVEN WITH THE SEED: THE CARDS: each row of YtkemaofclahaiabDoorRows.lean that lists a variable, with what it lists TIED to the program's text (the seventh form; the later family's looks); each row that meets fmt, with fmt's text TOLD by the authors' own Lean function (tested against real Go, not proved from fmt's source: count such statements apart). THE CARD IS WHAT COUNTS. Prove the row's statement (the work); the ties are given (YtkemaofclahaiabDoorTie.lean); close each card by the builder's one call (the guide's Derived/Test/ToyasCard.lean, 'card_holds'). Laid BY PROGRAM, IN A SANDBOX (cutbox-door.mjs). By AI agents, Wed Nov 11 2026. No macro, syntax, notation, axiom, sorry.
-/
import Derived.Test.YtkemaofclahaiabDoorRows
import GoSem.ClaimSeven
namespace Go.Proofs.YtkemaofclahaiabDoor
namespace Rows

/-- THE TIED CARD OF 'heraldlaw10.RopeRows'. -/
def ropeRowsCard : Claim7 := { stood := { row := ropeRowsRow, standIns := [], harness := (true, "9d5951c175d0126e63ba16a206f1a3910ae28c3cc10ca6cbdb8ff8cb5b5dd9c1"), looks := false }, kinds := [], alts := [], laidByText := true, laidKinds := [.data], laidTests := true, laidLooks := .later }
def RopeRowsCardSaid : Prop := Claim7.holds Tryd.pinned (.plain (OpenSpec.ofChange ropeRowsSpec)) ropeRowsCard

/-- THE SECOND FORM's CARD OF 'heraldlaw10.RopeRows'. -/
def ropeRowsUptoCard : Claim7 := { stood := { row := ropeRowsUptoRow, standIns := [], harness := (true, "9d5951c175d0126e63ba16a206f1a3910ae28c3cc10ca6cbdb8ff8cb5b5dd9c1"), looks := false }, kinds := [], alts := [], laidByText := true, laidKinds := [.data], laidTests := true, laidLooks := .later }
def RopeRowsUptoCardSaid : Prop := Claim7.holds Tryd.pinned (.plain (OpenSpec.upto ropeRowsSpec)) ropeRowsUptoCard
end Rows
end Go.Proofs.YtkemaofclahaiabDoor
