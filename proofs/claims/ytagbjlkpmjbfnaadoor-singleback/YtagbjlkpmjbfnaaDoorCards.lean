/-
  DERIVED. GIVEN WITH THE SEED: THE CARDS: each row of YtagbjlkpmjbfnaaDoorRows.lean that lists a variable, with what it lists TIED to the program's text (the seventh form; the later family's looks); each row that meets fmt, with fmt's text TOLD by the authors' own Lean function (tested against real Go, not proved from fmt's source: count such statements apart). THE CARD IS WHAT COUNTS. Prove the row's statement (the work); the ties are given (YtagbjlkpmjbfnaaDoorTie.lean); close each card by the builder's one call (the guide's Derived/Test/ToyasCard.lean, 'card_holds'). Laid BY PROGRAM, IN A SANDBOX (cutbox-door.mjs). By AI agents, Wed Nov 11 2026. No macro, syntax, notation, axiom, sorry.
-/
import Derived.Test.YtagbjlkpmjbfnaaDoorRows
import GoSem.ClaimSeven
namespace Go.Proofs.YtagbjlkpmjbfnaaDoor
namespace Rows

/-- THE TIED CARD OF 'heraldlaw03.SingleParts'. -/
def singlePartsCard : Claim7 := { stood := { row := singlePartsRow, standIns := [], harness := (true, "a8524f91e4fed67de2c7519b7f9e0bfe742c2fadfe8a25d2988873df3a4e3b62"), looks := false }, kinds := [], alts := [], laidByText := true, laidKinds := [.data, .wider], laidTests := true, laidLooks := .later }
def SinglePartsCardSaid : Prop := Claim7.holds Tryd.pinned (.plain (OpenSpec.ofChange singlePartsSpec)) singlePartsCard

/-- THE TIED CARD OF 'heraldlaw03.SingleNear'. -/
def singleNearCard : Claim7 := { stood := { row := singleNearRow, standIns := [], harness := (true, "a8524f91e4fed67de2c7519b7f9e0bfe742c2fadfe8a25d2988873df3a4e3b62"), looks := false }, kinds := [], alts := [], laidByText := true, laidKinds := [.wider], laidTests := true, laidLooks := .later }
def SingleNearCardSaid : Prop := Claim7.holds Tryd.pinned (.plain (OpenSpec.ofChange singleNearSpec)) singleNearCard

/-- THE TIED CARD OF 'heraldlaw03.SingleCompares'. -/
def singleComparesCard : Claim7 := { stood := { row := singleComparesRow, standIns := [], harness := (true, "a8524f91e4fed67de2c7519b7f9e0bfe742c2fadfe8a25d2988873df3a4e3b62"), looks := false }, kinds := [], alts := [], laidByText := true, laidKinds := [.wider], laidTests := true, laidLooks := .later }
def SingleComparesCardSaid : Prop := Claim7.holds Tryd.pinned (.plain (OpenSpec.ofChange singleComparesSpec)) singleComparesCard

/-- THE TIED CARD OF 'heraldlaw03.SingleAdds'. -/
def singleAddsCard : Claim7 := { stood := { row := singleAddsRow, standIns := [], harness := (true, "a8524f91e4fed67de2c7519b7f9e0bfe742c2fadfe8a25d2988873df3a4e3b62"), looks := false }, kinds := [], alts := [], laidByText := true, laidKinds := [.wider], laidTests := true, laidLooks := .later }
def SingleAddsCardSaid : Prop := Claim7.holds Tryd.pinned (.plain (OpenSpec.ofChange singleAddsSpec)) singleAddsCard

/-- THE TIED CARD OF 'heraldlaw03.SingleMuls'. -/
def singleMulsCard : Claim7 := { stood := { row := singleMulsRow, standIns := [], harness := (true, "a8524f91e4fed67de2c7519b7f9e0bfe742c2fadfe8a25d2988873df3a4e3b62"), looks := false }, kinds := [], alts := [], laidByText := true, laidKinds := [.wider], laidTests := true, laidLooks := .later }
def SingleMulsCardSaid : Prop := Claim7.holds Tryd.pinned (.plain (OpenSpec.ofChange singleMulsSpec)) singleMulsCard

/-- THE TIED CARD OF 'heraldlaw03.SingleBack'. -/
def singleBackCard : Claim7 := { stood := { row := singleBackRow, standIns := [], harness := (true, "a8524f91e4fed67de2c7519b7f9e0bfe742c2fadfe8a25d2988873df3a4e3b62"), looks := false }, kinds := [], alts := [], laidByText := true, laidKinds := [.data, .wider], laidTests := true, laidLooks := .later }
def SingleBackCardSaid : Prop := Claim7.holds Tryd.pinned (.plain (OpenSpec.ofChange singleBackSpec)) singleBackCard

/-- THE SECOND FORM's CARD OF 'heraldlaw03.SingleParts'. -/
def singlePartsUptoCard : Claim7 := { stood := { row := singlePartsUptoRow, standIns := [], harness := (true, "a8524f91e4fed67de2c7519b7f9e0bfe742c2fadfe8a25d2988873df3a4e3b62"), looks := false }, kinds := [], alts := [], laidByText := true, laidKinds := [.data, .wider], laidTests := true, laidLooks := .later }
def SinglePartsUptoCardSaid : Prop := Claim7.holds Tryd.pinned (.plain (OpenSpec.upto singlePartsSpec)) singlePartsUptoCard

/-- THE SECOND FORM's CARD OF 'heraldlaw03.SingleNear'. -/
def singleNearUptoCard : Claim7 := { stood := { row := singleNearUptoRow, standIns := [], harness := (true, "a8524f91e4fed67de2c7519b7f9e0bfe742c2fadfe8a25d2988873df3a4e3b62"), looks := false }, kinds := [], alts := [], laidByText := true, laidKinds := [.wider], laidTests := true, laidLooks := .later }
def SingleNearUptoCardSaid : Prop := Claim7.holds Tryd.pinned (.plain (OpenSpec.upto singleNearSpec)) singleNearUptoCard

/-- THE SECOND FORM's CARD OF 'heraldlaw03.SingleCompares'. -/
def singleComparesUptoCard : Claim7 := { stood := { row := singleComparesUptoRow, standIns := [], harness := (true, "a8524f91e4fed67de2c7519b7f9e0bfe742c2fadfe8a25d2988873df3a4e3b62"), looks := false }, kinds := [], alts := [], laidByText := true, laidKinds := [.wider], laidTests := true, laidLooks := .later }
def SingleComparesUptoCardSaid : Prop := Claim7.holds Tryd.pinned (.plain (OpenSpec.upto singleComparesSpec)) singleComparesUptoCard

/-- THE SECOND FORM's CARD OF 'heraldlaw03.SingleAdds'. -/
def singleAddsUptoCard : Claim7 := { stood := { row := singleAddsUptoRow, standIns := [], harness := (true, "a8524f91e4fed67de2c7519b7f9e0bfe742c2fadfe8a25d2988873df3a4e3b62"), looks := false }, kinds := [], alts := [], laidByText := true, laidKinds := [.wider], laidTests := true, laidLooks := .later }
def SingleAddsUptoCardSaid : Prop := Claim7.holds Tryd.pinned (.plain (OpenSpec.upto singleAddsSpec)) singleAddsUptoCard

/-- THE SECOND FORM's CARD OF 'heraldlaw03.SingleMuls'. -/
def singleMulsUptoCard : Claim7 := { stood := { row := singleMulsUptoRow, standIns := [], harness := (true, "a8524f91e4fed67de2c7519b7f9e0bfe742c2fadfe8a25d2988873df3a4e3b62"), looks := false }, kinds := [], alts := [], laidByText := true, laidKinds := [.wider], laidTests := true, laidLooks := .later }
def SingleMulsUptoCardSaid : Prop := Claim7.holds Tryd.pinned (.plain (OpenSpec.upto singleMulsSpec)) singleMulsUptoCard

/-- THE SECOND FORM's CARD OF 'heraldlaw03.SingleBack'. -/
def singleBackUptoCard : Claim7 := { stood := { row := singleBackUptoRow, standIns := [], harness := (true, "a8524f91e4fed67de2c7519b7f9e0bfe742c2fadfe8a25d2988873df3a4e3b62"), looks := false }, kinds := [], alts := [], laidByText := true, laidKinds := [.data, .wider], laidTests := true, laidLooks := .later }
def SingleBackUptoCardSaid : Prop := Claim7.holds Tryd.pinned (.plain (OpenSpec.upto singleBackSpec)) singleBackUptoCard
end Rows
end Go.Proofs.YtagbjlkpmjbfnaaDoor
