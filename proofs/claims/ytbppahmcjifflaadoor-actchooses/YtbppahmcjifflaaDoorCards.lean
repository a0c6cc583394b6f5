/-
  DERIVED. GIVEN WITH THE SEED: THE CARDS: each row of YtbppahmcjifflaaDoorRows.lean that lists a variable, with what it lists TIED to the program's text (the seventh form; the later family's looks); each row that meets fmt, with fmt's text TOLD by the authors' own Lean function (tested against real Go, not proved from fmt's source: count such statements apart). THE CARD IS WHAT COUNTS. Prove the row's statement (the work); the ties are given (YtbppahmcjifflaaDoorTie.lean); close each card by the builder's one call (the guide's Derived/Test/ToyasCard.lean, 'card_holds'). Laid BY PROGRAM, IN A SANDBOX (cutbox-door.mjs). By AI agents, Wed Nov 11 2026. No macro, syntax, notation, axiom, sorry.
-/
import Derived.Test.YtbppahmcjifflaaDoorRows
import GoSem.ClaimSeven
namespace Go.Proofs.YtbppahmcjifflaaDoor
namespace Rows

/-- THE TIED CARD OF 'heraldlaw12.ActTables'. -/
def actTablesCard : Claim7 := { stood := { row := actTablesRow, standIns := [], harness := (true, "08a30d2289dab723fb5d1b1a631d7d8956dbf42c1e73dea00377472a194a180e"), looks := false }, kinds := [], alts := [], laidByText := true, laidKinds := [.data], laidTests := true, laidLooks := .later }
def ActTablesCardSaid : Prop := Claim7.holds Tryd.pinned (.plain (OpenSpec.ofChange actTablesSpec)) actTablesCard

/-- THE TIED CARD OF 'heraldlaw12.ActGates'. -/
def actGatesCard : Claim7 := { stood := { row := actGatesRow, standIns := [], harness := (true, "08a30d2289dab723fb5d1b1a631d7d8956dbf42c1e73dea00377472a194a180e"), looks := false }, kinds := [], alts := [], laidByText := true, laidKinds := [.data], laidTests := true, laidLooks := .later }
def ActGatesCardSaid : Prop := Claim7.holds Tryd.pinned (.plain (OpenSpec.ofChange actGatesSpec)) actGatesCard

/-- THE TIED CARD OF 'heraldlaw12.ActMiddles'. -/
def actMiddlesCard : Claim7 := { stood := { row := actMiddlesRow, standIns := [], harness := (true, "08a30d2289dab723fb5d1b1a631d7d8956dbf42c1e73dea00377472a194a180e"), looks := false }, kinds := [], alts := [], laidByText := true, laidKinds := [.data], laidTests := true, laidLooks := .later }
def ActMiddlesCardSaid : Prop := Claim7.holds Tryd.pinned (.plain (OpenSpec.ofChange actMiddlesSpec)) actMiddlesCard

/-- THE TIED CARD OF 'heraldlaw12.ActBends'. -/
def actBendsCard : Claim7 := { stood := { row := actBendsRow, standIns := [], harness := (true, "08a30d2289dab723fb5d1b1a631d7d8956dbf42c1e73dea00377472a194a180e"), looks := false }, kinds := [], alts := [], laidByText := true, laidKinds := [.data], laidTests := true, laidLooks := .later }
def ActBendsCardSaid : Prop := Claim7.holds Tryd.pinned (.plain (OpenSpec.ofChange actBendsSpec)) actBendsCard

/-- THE TIED CARD OF 'heraldlaw12.ActShuts'. -/
def actShutsCard : Claim7 := { stood := { row := actShutsRow, standIns := [], harness := (true, "08a30d2289dab723fb5d1b1a631d7d8956dbf42c1e73dea00377472a194a180e"), looks := false }, kinds := [], alts := [], laidByText := true, laidKinds := [.data], laidTests := true, laidLooks := .later }
def ActShutsCardSaid : Prop := Claim7.holds Tryd.pinned (.plain (OpenSpec.ofChange actShutsSpec)) actShutsCard

/-- THE TIED CARD OF 'heraldlaw12.ActChooses'. -/
def actChoosesCard : Claim7 := { stood := { row := actChoosesRow, standIns := [], harness := (true, "08a30d2289dab723fb5d1b1a631d7d8956dbf42c1e73dea00377472a194a180e"), looks := false }, kinds := [], alts := [], laidByText := true, laidKinds := [.data], laidTests := true, laidLooks := .later }
def ActChoosesCardSaid : Prop := Claim7.holds Tryd.pinned (.plain (OpenSpec.ofChange actChoosesSpec)) actChoosesCard

/-- THE SECOND FORM's CARD OF 'heraldlaw12.ActTables'. -/
def actTablesUptoCard : Claim7 := { stood := { row := actTablesUptoRow, standIns := [], harness := (true, "08a30d2289dab723fb5d1b1a631d7d8956dbf42c1e73dea00377472a194a180e"), looks := false }, kinds := [], alts := [], laidByText := true, laidKinds := [.data], laidTests := true, laidLooks := .later }
def ActTablesUptoCardSaid : Prop := Claim7.holds Tryd.pinned (.plain (OpenSpec.upto actTablesSpec)) actTablesUptoCard

/-- THE SECOND FORM's CARD OF 'heraldlaw12.ActGates'. -/
def actGatesUptoCard : Claim7 := { stood := { row := actGatesUptoRow, standIns := [], harness := (true, "08a30d2289dab723fb5d1b1a631d7d8956dbf42c1e73dea00377472a194a180e"), looks := false }, kinds := [], alts := [], laidByText := true, laidKinds := [.data], laidTests := true, laidLooks := .later }
def ActGatesUptoCardSaid : Prop := Claim7.holds Tryd.pinned (.plain (OpenSpec.upto actGatesSpec)) actGatesUptoCard

/-- THE SECOND FORM's CARD OF 'heraldlaw12.ActMiddles'. -/
def actMiddlesUptoCard : Claim7 := { stood := { row := actMiddlesUptoRow, standIns := [], harness := (true, "08a30d2289dab723fb5d1b1a631d7d8956dbf42c1e73dea00377472a194a180e"), looks := false }, kinds := [], alts := [], laidByText := true, laidKinds := [.data], laidTests := true, laidLooks := .later }
def ActMiddlesUptoCardSaid : Prop := Claim7.holds Tryd.pinned (.plain (OpenSpec.upto actMiddlesSpec)) actMiddlesUptoCard

/-- THE SECOND FORM's CARD OF 'heraldlaw12.ActBends'. -/
def actBendsUptoCard : Claim7 := { stood := { row := actBendsUptoRow, standIns := [], harness := (true, "08a30d2289dab723fb5d1b1a631d7d8956dbf42c1e73dea00377472a194a180e"), looks := false }, kinds := [], alts := [], laidByText := true, laidKinds := [.data], laidTests := true, laidLooks := .later }
def ActBendsUptoCardSaid : Prop := Claim7.holds Tryd.pinned (.plain (OpenSpec.upto actBendsSpec)) actBendsUptoCard

/-- THE SECOND FORM's CARD OF 'heraldlaw12.ActShuts'. -/
def actShutsUptoCard : Claim7 := { stood := { row := actShutsUptoRow, standIns := [], harness := (true, "08a30d2289dab723fb5d1b1a631d7d8956dbf42c1e73dea00377472a194a180e"), looks := false }, kinds := [], alts := [], laidByText := true, laidKinds := [.data], laidTests := true, laidLooks := .later }
def ActShutsUptoCardSaid : Prop := Claim7.holds Tryd.pinned (.plain (OpenSpec.upto actShutsSpec)) actShutsUptoCard

/-- THE SECOND FORM's CARD OF 'heraldlaw12.ActChooses'. -/
def actChoosesUptoCard : Claim7 := { stood := { row := actChoosesUptoRow, standIns := [], harness := (true, "08a30d2289dab723fb5d1b1a631d7d8956dbf42c1e73dea00377472a194a180e"), looks := false }, kinds := [], alts := [], laidByText := true, laidKinds := [.data], laidTests := true, laidLooks := .later }
def ActChoosesUptoCardSaid : Prop := Claim7.holds Tryd.pinned (.plain (OpenSpec.upto actChoosesSpec)) actChoosesUptoCard
end Rows
end Go.Proofs.YtbppahmcjifflaaDoor
