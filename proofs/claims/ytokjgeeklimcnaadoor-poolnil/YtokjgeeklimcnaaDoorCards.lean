/-
  DERIVED. GIVEN WITH THE SEED: THE CARDS: each row of YtokjgeeklimcnaaDoorRows.lean that lists a variable, with what it lists TIED to the program's text (the seventh form; the later family's looks); each row that meets fmt, with fmt's text TOLD by the authors' own Lean function (tested against real Go, not proved from fmt's source: count such statements apart). THE CARD IS WHAT COUNTS. Prove the row's statement (the work); the ties are given (YtokjgeeklimcnaaDoorTie.lean); close each card by the builder's one call (the guide's Derived/Test/ToyasCard.lean, 'card_holds'). Laid BY PROGRAM, IN A SANDBOX (cutbox-door.mjs). By AI agents, Wed Nov 11 2026. No macro, syntax, notation, axiom, sorry.
-/
import Derived.Test.YtokjgeeklimcnaaDoorRows
import GoSem.ClaimSeven
namespace Go.Proofs.YtokjgeeklimcnaaDoor
namespace Rows

/-- THE TIED CARD OF 'heraldlaw05.PoolPlays'. -/
def poolPlaysCard : Claim7 := { stood := { row := poolPlaysRow, standIns := [], harness := (true, "e11ee75c291ba8f3a19af4d9396c94f130938d198838efa100ad3a5f3fee9b92"), looks := false }, kinds := [], alts := [], laidByText := true, laidKinds := [.data], laidTests := true, laidLooks := .later }
def PoolPlaysCardSaid : Prop := Claim7.holds Tryd.pinned (.plain (OpenSpec.ofChange poolPlaysSpec)) poolPlaysCard

/-- THE TIED CARD OF 'heraldlaw05.PoolTwo'. -/
def poolTwoCard : Claim7 := { stood := { row := poolTwoRow, standIns := [], harness := (true, "e11ee75c291ba8f3a19af4d9396c94f130938d198838efa100ad3a5f3fee9b92"), looks := false }, kinds := [], alts := [], laidByText := true, laidKinds := [.data], laidTests := true, laidLooks := .later }
def PoolTwoCardSaid : Prop := Claim7.holds Tryd.pinned (.plain (OpenSpec.ofChange poolTwoSpec)) poolTwoCard

/-- THE TIED CARD OF 'heraldlaw05.PoolLeast'. -/
def poolLeastCard : Claim7 := { stood := { row := poolLeastRow, standIns := [], harness := (true, "e11ee75c291ba8f3a19af4d9396c94f130938d198838efa100ad3a5f3fee9b92"), looks := false }, kinds := [], alts := [], laidByText := true, laidKinds := [.data], laidTests := true, laidLooks := .later }
def PoolLeastCardSaid : Prop := Claim7.holds Tryd.pinned (.plain (OpenSpec.ofChange poolLeastSpec)) poolLeastCard

/-- THE TIED CARD OF 'heraldlaw05.PoolKinds'. -/
def poolKindsCard : Claim7 := { stood := { row := poolKindsRow, standIns := [], harness := (true, "e11ee75c291ba8f3a19af4d9396c94f130938d198838efa100ad3a5f3fee9b92"), looks := false }, kinds := [], alts := [], laidByText := true, laidKinds := [.data], laidTests := true, laidLooks := .later }
def PoolKindsCardSaid : Prop := Claim7.holds Tryd.pinned (.plain (OpenSpec.ofChange poolKindsSpec)) poolKindsCard

/-- THE TIED CARD OF 'heraldlaw05.PoolWalks'. -/
def poolWalksCard : Claim7 := { stood := { row := poolWalksRow, standIns := [], harness := (true, "e11ee75c291ba8f3a19af4d9396c94f130938d198838efa100ad3a5f3fee9b92"), looks := false }, kinds := [], alts := [], laidByText := true, laidKinds := [.data], laidTests := true, laidLooks := .later }
def PoolWalksCardSaid : Prop := Claim7.holds Tryd.pinned (.plain (OpenSpec.ofChange poolWalksSpec)) poolWalksCard

/-- THE TIED CARD OF 'heraldlaw05.PoolNil'. -/
def poolNilCard : Claim7 := { stood := { row := poolNilRow, standIns := [], harness := (true, "e11ee75c291ba8f3a19af4d9396c94f130938d198838efa100ad3a5f3fee9b92"), looks := false }, kinds := [], alts := [], laidByText := true, laidKinds := [.data], laidTests := true, laidLooks := .later }
def PoolNilCardSaid : Prop := Claim7.holds Tryd.pinned (.plain (OpenSpec.ofChange poolNilSpec)) poolNilCard

/-- THE SECOND FORM's CARD OF 'heraldlaw05.PoolPlays'. -/
def poolPlaysUptoCard : Claim7 := { stood := { row := poolPlaysUptoRow, standIns := [], harness := (true, "e11ee75c291ba8f3a19af4d9396c94f130938d198838efa100ad3a5f3fee9b92"), looks := false }, kinds := [], alts := [], laidByText := true, laidKinds := [.data], laidTests := true, laidLooks := .later }
def PoolPlaysUptoCardSaid : Prop := Claim7.holds Tryd.pinned (.plain (OpenSpec.upto poolPlaysSpec)) poolPlaysUptoCard

/-- THE SECOND FORM's CARD OF 'heraldlaw05.PoolTwo'. -/
def poolTwoUptoCard : Claim7 := { stood := { row := poolTwoUptoRow, standIns := [], harness := (true, "e11ee75c291ba8f3a19af4d9396c94f130938d198838efa100ad3a5f3fee9b92"), looks := false }, kinds := [], alts := [], laidByText := true, laidKinds := [.data], laidTests := true, laidLooks := .later }
def PoolTwoUptoCardSaid : Prop := Claim7.holds Tryd.pinned (.plain (OpenSpec.upto poolTwoSpec)) poolTwoUptoCard

/-- THE SECOND FORM's CARD OF 'heraldlaw05.PoolLeast'. -/
def poolLeastUptoCard : Claim7 := { stood := { row := poolLeastUptoRow, standIns := [], harness := (true, "e11ee75c291ba8f3a19af4d9396c94f130938d198838efa100ad3a5f3fee9b92"), looks := false }, kinds := [], alts := [], laidByText := true, laidKinds := [.data], laidTests := true, laidLooks := .later }
def PoolLeastUptoCardSaid : Prop := Claim7.holds Tryd.pinned (.plain (OpenSpec.upto poolLeastSpec)) poolLeastUptoCard

/-- THE SECOND FORM's CARD OF 'heraldlaw05.PoolKinds'. -/
def poolKindsUptoCard : Claim7 := { stood := { row := poolKindsUptoRow, standIns := [], harness := (true, "e11ee75c291ba8f3a19af4d9396c94f130938d198838efa100ad3a5f3fee9b92"), looks := false }, kinds := [], alts := [], laidByText := true, laidKinds := [.data], laidTests := true, laidLooks := .later }
def PoolKindsUptoCardSaid : Prop := Claim7.holds Tryd.pinned (.plain (OpenSpec.upto poolKindsSpec)) poolKindsUptoCard

/-- THE SECOND FORM's CARD OF 'heraldlaw05.PoolWalks'. -/
def poolWalksUptoCard : Claim7 := { stood := { row := poolWalksUptoRow, standIns := [], harness := (true, "e11ee75c291ba8f3a19af4d9396c94f130938d198838efa100ad3a5f3fee9b92"), looks := false }, kinds := [], alts := [], laidByText := true, laidKinds := [.data], laidTests := true, laidLooks := .later }
def PoolWalksUptoCardSaid : Prop := Claim7.holds Tryd.pinned (.plain (OpenSpec.upto poolWalksSpec)) poolWalksUptoCard

/-- THE SECOND FORM's CARD OF 'heraldlaw05.PoolNil'. -/
def poolNilUptoCard : Claim7 := { stood := { row := poolNilUptoRow, standIns := [], harness := (true, "e11ee75c291ba8f3a19af4d9396c94f130938d198838efa100ad3a5f3fee9b92"), looks := false }, kinds := [], alts := [], laidByText := true, laidKinds := [.data], laidTests := true, laidLooks := .later }
def PoolNilUptoCardSaid : Prop := Claim7.holds Tryd.pinned (.plain (OpenSpec.upto poolNilSpec)) poolNilUptoCard
end Rows
end Go.Proofs.YtokjgeeklimcnaaDoor
