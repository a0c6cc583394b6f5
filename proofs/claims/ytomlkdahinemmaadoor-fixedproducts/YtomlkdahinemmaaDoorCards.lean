/-
  DERIVED. GIVEN WITH THE SEED: THE CARDS: each row of YtomlkdahinemmaaDoorRows.lean that lists a variable, with what it lists TIED to the program's text (the seventh form; the later family's looks); each row that meets fmt, with fmt's text TOLD by the authors' own Lean function (tested against real Go, not proved from fmt's source: count such statements apart). THE CARD IS WHAT COUNTS. Prove the row's statement (the work); the ties are given (YtomlkdahinemmaaDoorTie.lean); close each card by the builder's one call (the guide's Derived/Test/ToyasCard.lean, 'card_holds'). Laid BY PROGRAM, IN A SANDBOX (cutbox-door.mjs). By AI agents, Wed Nov 11 2026. No macro, syntax, notation, axiom, sorry.
-/
import Derived.Test.YtomlkdahinemmaaDoorRows
import GoSem.ClaimSeven
namespace Go.Proofs.YtomlkdahinemmaaDoor
namespace Rows

/-- THE TIED CARD OF 'heraldlaw02.FixedNearest'. -/
def fixedNearestCard : Claim7 := { stood := { row := fixedNearestRow, standIns := [], harness := (true, "ad8edd5ea2b7d3c8f0f73fda4c499a3c0e8e544ea3e30acc54fa4f1fa382c78d"), looks := false }, kinds := [], alts := [], laidByText := true, laidKinds := [.data], laidTests := true, laidLooks := .later }
def FixedNearestCardSaid : Prop := Claim7.holds Tryd.pinned (.plain (OpenSpec.ofChange fixedNearestSpec)) fixedNearestCard

/-- THE TIED CARD OF 'heraldlaw02.FixedBest'. -/
def fixedBestCard : Claim7 := { stood := { row := fixedBestRow, standIns := [], harness := (true, "ad8edd5ea2b7d3c8f0f73fda4c499a3c0e8e544ea3e30acc54fa4f1fa382c78d"), looks := false }, kinds := [], alts := [], laidByText := true, laidKinds := [.data], laidTests := true, laidLooks := .later }
def FixedBestCardSaid : Prop := Claim7.holds Tryd.pinned (.plain (OpenSpec.ofChange fixedBestSpec)) fixedBestCard

/-- THE TIED CARD OF 'heraldlaw02.FixedLogs'. -/
def fixedLogsCard : Claim7 := { stood := { row := fixedLogsRow, standIns := [], harness := (true, "ad8edd5ea2b7d3c8f0f73fda4c499a3c0e8e544ea3e30acc54fa4f1fa382c78d"), looks := false }, kinds := [], alts := [], laidByText := true, laidKinds := [.data], laidTests := true, laidLooks := .later }
def FixedLogsCardSaid : Prop := Claim7.holds Tryd.pinned (.plain (OpenSpec.ofChange fixedLogsSpec)) fixedLogsCard

/-- THE TIED CARD OF 'heraldlaw02.FixedGrows'. -/
def fixedGrowsCard : Claim7 := { stood := { row := fixedGrowsRow, standIns := [], harness := (true, "ad8edd5ea2b7d3c8f0f73fda4c499a3c0e8e544ea3e30acc54fa4f1fa382c78d"), looks := false }, kinds := [], alts := [], laidByText := true, laidKinds := [.data], laidTests := true, laidLooks := .later }
def FixedGrowsCardSaid : Prop := Claim7.holds Tryd.pinned (.plain (OpenSpec.ofChange fixedGrowsSpec)) fixedGrowsCard

/-- THE TIED CARD OF 'heraldlaw02.FixedProducts'. -/
def fixedProductsCard : Claim7 := { stood := { row := fixedProductsRow, standIns := [], harness := (true, "ad8edd5ea2b7d3c8f0f73fda4c499a3c0e8e544ea3e30acc54fa4f1fa382c78d"), looks := false }, kinds := [], alts := [], laidByText := true, laidKinds := [.data], laidTests := true, laidLooks := .later }
def FixedProductsCardSaid : Prop := Claim7.holds Tryd.pinned (.plain (OpenSpec.ofChange fixedProductsSpec)) fixedProductsCard

/-- THE TIED CARD OF 'heraldlaw02.FixedPowersOf'. -/
def fixedPowersOfCard : Claim7 := { stood := { row := fixedPowersOfRow, standIns := [], harness := (true, "ad8edd5ea2b7d3c8f0f73fda4c499a3c0e8e544ea3e30acc54fa4f1fa382c78d"), looks := false }, kinds := [], alts := [], laidByText := true, laidKinds := [.data], laidTests := true, laidLooks := .later }
def FixedPowersOfCardSaid : Prop := Claim7.holds Tryd.pinned (.plain (OpenSpec.ofChange fixedPowersOfSpec)) fixedPowersOfCard

/-- THE SECOND FORM's CARD OF 'heraldlaw02.FixedNearest'. -/
def fixedNearestUptoCard : Claim7 := { stood := { row := fixedNearestUptoRow, standIns := [], harness := (true, "ad8edd5ea2b7d3c8f0f73fda4c499a3c0e8e544ea3e30acc54fa4f1fa382c78d"), looks := false }, kinds := [], alts := [], laidByText := true, laidKinds := [.data], laidTests := true, laidLooks := .later }
def FixedNearestUptoCardSaid : Prop := Claim7.holds Tryd.pinned (.plain (OpenSpec.upto fixedNearestSpec)) fixedNearestUptoCard

/-- THE SECOND FORM's CARD OF 'heraldlaw02.FixedBest'. -/
def fixedBestUptoCard : Claim7 := { stood := { row := fixedBestUptoRow, standIns := [], harness := (true, "ad8edd5ea2b7d3c8f0f73fda4c499a3c0e8e544ea3e30acc54fa4f1fa382c78d"), looks := false }, kinds := [], alts := [], laidByText := true, laidKinds := [.data], laidTests := true, laidLooks := .later }
def FixedBestUptoCardSaid : Prop := Claim7.holds Tryd.pinned (.plain (OpenSpec.upto fixedBestSpec)) fixedBestUptoCard

/-- THE SECOND FORM's CARD OF 'heraldlaw02.FixedLogs'. -/
def fixedLogsUptoCard : Claim7 := { stood := { row := fixedLogsUptoRow, standIns := [], harness := (true, "ad8edd5ea2b7d3c8f0f73fda4c499a3c0e8e544ea3e30acc54fa4f1fa382c78d"), looks := false }, kinds := [], alts := [], laidByText := true, laidKinds := [.data], laidTests := true, laidLooks := .later }
def FixedLogsUptoCardSaid : Prop := Claim7.holds Tryd.pinned (.plain (OpenSpec.upto fixedLogsSpec)) fixedLogsUptoCard

/-- THE SECOND FORM's CARD OF 'heraldlaw02.FixedGrows'. -/
def fixedGrowsUptoCard : Claim7 := { stood := { row := fixedGrowsUptoRow, standIns := [], harness := (true, "ad8edd5ea2b7d3c8f0f73fda4c499a3c0e8e544ea3e30acc54fa4f1fa382c78d"), looks := false }, kinds := [], alts := [], laidByText := true, laidKinds := [.data], laidTests := true, laidLooks := .later }
def FixedGrowsUptoCardSaid : Prop := Claim7.holds Tryd.pinned (.plain (OpenSpec.upto fixedGrowsSpec)) fixedGrowsUptoCard

/-- THE SECOND FORM's CARD OF 'heraldlaw02.FixedProducts'. -/
def fixedProductsUptoCard : Claim7 := { stood := { row := fixedProductsUptoRow, standIns := [], harness := (true, "ad8edd5ea2b7d3c8f0f73fda4c499a3c0e8e544ea3e30acc54fa4f1fa382c78d"), looks := false }, kinds := [], alts := [], laidByText := true, laidKinds := [.data], laidTests := true, laidLooks := .later }
def FixedProductsUptoCardSaid : Prop := Claim7.holds Tryd.pinned (.plain (OpenSpec.upto fixedProductsSpec)) fixedProductsUptoCard

/-- THE SECOND FORM's CARD OF 'heraldlaw02.FixedPowersOf'. -/
def fixedPowersOfUptoCard : Claim7 := { stood := { row := fixedPowersOfUptoRow, standIns := [], harness := (true, "ad8edd5ea2b7d3c8f0f73fda4c499a3c0e8e544ea3e30acc54fa4f1fa382c78d"), looks := false }, kinds := [], alts := [], laidByText := true, laidKinds := [.data], laidTests := true, laidLooks := .later }
def FixedPowersOfUptoCardSaid : Prop := Claim7.holds Tryd.pinned (.plain (OpenSpec.upto fixedPowersOfSpec)) fixedPowersOfUptoCard
end Rows
end Go.Proofs.YtomlkdahinemmaaDoor
