/-
  DERIVED. GIVEN WITH THE SEED: THE CARDS: each row of YtodomdgaoplhpabDoorRows.lean that lists a variable, with what it lists TIED to the program's text (the seventh form; the later family's looks); each row that meets fmt, with fmt's text TOLD by the authors' own Lean function (tested against real Go, not proved from fmt's source: count such statements apart). THE CARD IS WHAT COUNTS. Prove the row's statement (the work); the ties are given (YtodomdgaoplhpabDoorTie.lean); close each card by the builder's one call (the guide's Derived/Test/ToyasCard.lean, 'card_holds'). Laid BY PROGRAM, IN A SANDBOX (cutbox-door.mjs). By AI agents, Wed Nov 11 2026. No macro, syntax, notation, axiom, sorry.
-/
import Derived.Test.YtodomdgaoplhpabDoorRows
import GoSem.ClaimSeven
namespace Go.Proofs.YtodomdgaoplhpabDoor
namespace Rows

/-- THE TIED CARD OF 'heraldlaw04.NatChooses'. -/
def natChoosesCard : Claim7 := { stood := { row := natChoosesRow, standIns := [], harness := (true, "f5236e3ffe53ad8ea33b0b212d7fa0ecd3ab8024d74e2709e9e49215cf06c885"), looks := false }, kinds := [], alts := [], laidByText := true, laidKinds := [.data, .data, .data, .data, .pinned], laidTests := true, laidLooks := .later }
def NatChoosesCardSaid : Prop := Claim7.holds Tryd.pinned (.plain (OpenSpec.ofChange natChoosesSpec)) natChoosesCard

/-- THE SECOND FORM's CARD OF 'heraldlaw04.NatChooses'. -/
def natChoosesUptoCard : Claim7 := { stood := { row := natChoosesUptoRow, standIns := [], harness := (true, "f5236e3ffe53ad8ea33b0b212d7fa0ecd3ab8024d74e2709e9e49215cf06c885"), looks := false }, kinds := [], alts := [], laidByText := true, laidKinds := [.data, .data, .data, .data, .pinned], laidTests := true, laidLooks := .later }
def NatChoosesUptoCardSaid : Prop := Claim7.holds Tryd.pinned (.plain (OpenSpec.upto natChoosesSpec)) natChoosesUptoCard
end Rows
end Go.Proofs.YtodomdgaoplhpabDoor
