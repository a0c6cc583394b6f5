/-
  DERIVED. GIVEN WITH THE SEED: THE CARDS: each row of YtakiimjldccgcabDoorRows.lean that lists a variable, with what it lists TIED to the program's text (the seventh form; the later family's looks); each row that meets fmt, with fmt's text TOLD by the authors' own Lean function (tested against real Go, not proved from fmt's source: count such statements apart). THE CARD IS WHAT COUNTS. Prove the row's statement (the work); the ties are given (YtakiimjldccgcabDoorTie.lean); close each card by the builder's one call (the guide's Derived/Test/ToyasCard.lean, 'card_holds'). Laid BY PROGRAM, IN A SANDBOX (cutbox-door.mjs). By AI agents, Wed Nov 11 2026. No macro, syntax, notation, axiom, sorry.
-/
import Derived.Test.YtakiimjldccgcabDoorRows
import GoSem.ClaimSeven
namespace Go.Proofs.YtakiimjldccgcabDoor
namespace Rows

/-- THE TIED CARD OF 'heraldlaw16.ShapeCosts'. -/
def shapeCostsCard : Claim7 := { stood := { row := shapeCostsRow, standIns := [], harness := (true, "5c6e7995c65b89eb8df87f7aa188c1488b9268997caafae40d553d77adcc5f46"), looks := false }, kinds := [], alts := [], laidByText := true, laidKinds := [.data, .data], laidTests := true, laidLooks := .later }
def ShapeCostsCardSaid : Prop := Claim7.holds Tryd.pinned (.plain (OpenSpec.ofChange shapeCostsSpec)) shapeCostsCard

/-- THE TIED CARD OF 'heraldlaw16.ShapeCuts'. -/
def shapeCutsCard : Claim7 := { stood := { row := shapeCutsRow, standIns := [], harness := (true, "5c6e7995c65b89eb8df87f7aa188c1488b9268997caafae40d553d77adcc5f46"), looks := false }, kinds := [], alts := [], laidByText := true, laidKinds := [.data, .data], laidTests := true, laidLooks := .later }
def ShapeCutsCardSaid : Prop := Claim7.holds Tryd.pinned (.plain (OpenSpec.ofChange shapeCutsSpec)) shapeCutsCard

/-- THE SECOND FORM's CARD OF 'heraldlaw16.ShapeCosts'. -/
def shapeCostsUptoCard : Claim7 := { stood := { row := shapeCostsUptoRow, standIns := [], harness := (true, "5c6e7995c65b89eb8df87f7aa188c1488b9268997caafae40d553d77adcc5f46"), looks := false }, kinds := [], alts := [], laidByText := true, laidKinds := [.data, .data], laidTests := true, laidLooks := .later }
def ShapeCostsUptoCardSaid : Prop := Claim7.holds Tryd.pinned (.plain (OpenSpec.upto shapeCostsSpec)) shapeCostsUptoCard

/-- THE SECOND FORM's CARD OF 'heraldlaw16.ShapeCuts'. -/
def shapeCutsUptoCard : Claim7 := { stood := { row := shapeCutsUptoRow, standIns := [], harness := (true, "5c6e7995c65b89eb8df87f7aa188c1488b9268997caafae40d553d77adcc5f46"), looks := false }, kinds := [], alts := [], laidByText := true, laidKinds := [.data, .data], laidTests := true, laidLooks := .later }
def ShapeCutsUptoCardSaid : Prop := Claim7.holds Tryd.pinned (.plain (OpenSpec.upto shapeCutsSpec)) shapeCutsUptoCard
end Rows
end Go.Proofs.YtakiimjldccgcabDoor
