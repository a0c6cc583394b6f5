/-
  DERIVED. GIVEN WITH THE SEED: THE CARDS: each row of YtohimhojieeloaaDoorRows.lean that lists a variable, with what it lists TIED to the program's text (the seventh form; the later family's looks); each row that meets fmt, with fmt's text TOLD by the authors' own Lean function (tested against real Go, not proved from fmt's source: count such statements apart). THE CARD IS WHAT COUNTS. Prove the row's statement (the work); the ties are given (YtohimhojieeloaaDoorTie.lean); close each card by the builder's one call (the guide's Derived/Test/ToyasCard.lean, 'card_holds'). Laid BY PROGRAM, IN A SANDBOX (cutbox-door.mjs). By AI agents, Wed Nov 11 2026. No macro, syntax, notation, axiom, sorry.
-/
import Derived.Test.YtohimhojieeloaaDoorRows
import GoSem.ClaimSeven
namespace Go.Proofs.YtohimhojieeloaaDoor
namespace Rows

/-- THE TIED CARD OF 'heraldlaw02.FixedSums'. -/
def fixedSumsCard : Claim7 := { stood := { row := fixedSumsRow, standIns := [], harness := (true, "51380bc062d1d6a2785d113d9e90fb797d11ca73f7455b79ed86fe2c346f5924"), looks := false }, kinds := [], alts := [], laidByText := true, laidKinds := [.data], laidTests := true, laidLooks := .later }
def FixedSumsCardSaid : Prop := Claim7.holds Tryd.pinned (.plain (OpenSpec.ofChange fixedSumsSpec)) fixedSumsCard

/-- THE TIED CARD OF 'heraldlaw02.FixedBounds'. -/
def fixedBoundsCard : Claim7 := { stood := { row := fixedBoundsRow, standIns := [], harness := (true, "51380bc062d1d6a2785d113d9e90fb797d11ca73f7455b79ed86fe2c346f5924"), looks := false }, kinds := [], alts := [], laidByText := true, laidKinds := [.data], laidTests := true, laidLooks := .later }
def FixedBoundsCardSaid : Prop := Claim7.holds Tryd.pinned (.plain (OpenSpec.ofChange fixedBoundsSpec)) fixedBoundsCard

/-- THE TIED CARD OF 'heraldlaw02.FixedRounds'. -/
def fixedRoundsCard : Claim7 := { stood := { row := fixedRoundsRow, standIns := [], harness := (true, "51380bc062d1d6a2785d113d9e90fb797d11ca73f7455b79ed86fe2c346f5924"), looks := false }, kinds := [], alts := [], laidByText := true, laidKinds := [.data], laidTests := true, laidLooks := .later }
def FixedRoundsCardSaid : Prop := Claim7.holds Tryd.pinned (.plain (OpenSpec.ofChange fixedRoundsSpec)) fixedRoundsCard

/-- THE TIED CARD OF 'heraldlaw02.FixedRoots'. -/
def fixedRootsCard : Claim7 := { stood := { row := fixedRootsRow, standIns := [], harness := (true, "51380bc062d1d6a2785d113d9e90fb797d11ca73f7455b79ed86fe2c346f5924"), looks := false }, kinds := [], alts := [], laidByText := true, laidKinds := [.data], laidTests := true, laidLooks := .later }
def FixedRootsCardSaid : Prop := Claim7.holds Tryd.pinned (.plain (OpenSpec.ofChange fixedRootsSpec)) fixedRootsCard

/-- THE TIED CARD OF 'heraldlaw02.FixedPowers'. -/
def fixedPowersCard : Claim7 := { stood := { row := fixedPowersRow, standIns := [], harness := (true, "51380bc062d1d6a2785d113d9e90fb797d11ca73f7455b79ed86fe2c346f5924"), looks := false }, kinds := [], alts := [], laidByText := true, laidKinds := [.data], laidTests := true, laidLooks := .later }
def FixedPowersCardSaid : Prop := Claim7.holds Tryd.pinned (.plain (OpenSpec.ofChange fixedPowersSpec)) fixedPowersCard

/-- THE TIED CARD OF 'heraldlaw02.FixedRises'. -/
def fixedRisesCard : Claim7 := { stood := { row := fixedRisesRow, standIns := [], harness := (true, "51380bc062d1d6a2785d113d9e90fb797d11ca73f7455b79ed86fe2c346f5924"), looks := false }, kinds := [], alts := [], laidByText := true, laidKinds := [.data], laidTests := true, laidLooks := .later }
def FixedRisesCardSaid : Prop := Claim7.holds Tryd.pinned (.plain (OpenSpec.ofChange fixedRisesSpec)) fixedRisesCard

/-- THE SECOND FORM's CARD OF 'heraldlaw02.FixedSums'. -/
def fixedSumsUptoCard : Claim7 := { stood := { row := fixedSumsUptoRow, standIns := [], harness := (true, "51380bc062d1d6a2785d113d9e90fb797d11ca73f7455b79ed86fe2c346f5924"), looks := false }, kinds := [], alts := [], laidByText := true, laidKinds := [.data], laidTests := true, laidLooks := .later }
def FixedSumsUptoCardSaid : Prop := Claim7.holds Tryd.pinned (.plain (OpenSpec.upto fixedSumsSpec)) fixedSumsUptoCard

/-- THE SECOND FORM's CARD OF 'heraldlaw02.FixedBounds'. -/
def fixedBoundsUptoCard : Claim7 := { stood := { row := fixedBoundsUptoRow, standIns := [], harness := (true, "51380bc062d1d6a2785d113d9e90fb797d11ca73f7455b79ed86fe2c346f5924"), looks := false }, kinds := [], alts := [], laidByText := true, laidKinds := [.data], laidTests := true, laidLooks := .later }
def FixedBoundsUptoCardSaid : Prop := Claim7.holds Tryd.pinned (.plain (OpenSpec.upto fixedBoundsSpec)) fixedBoundsUptoCard

/-- THE SECOND FORM's CARD OF 'heraldlaw02.FixedRounds'. -/
def fixedRoundsUptoCard : Claim7 := { stood := { row := fixedRoundsUptoRow, standIns := [], harness := (true, "51380bc062d1d6a2785d113d9e90fb797d11ca73f7455b79ed86fe2c346f5924"), looks := false }, kinds := [], alts := [], laidByText := true, laidKinds := [.data], laidTests := true, laidLooks := .later }
def FixedRoundsUptoCardSaid : Prop := Claim7.holds Tryd.pinned (.plain (OpenSpec.upto fixedRoundsSpec)) fixedRoundsUptoCard

/-- THE SECOND FORM's CARD OF 'heraldlaw02.FixedRoots'. -/
def fixedRootsUptoCard : Claim7 := { stood := { row := fixedRootsUptoRow, standIns := [], harness := (true, "51380bc062d1d6a2785d113d9e90fb797d11ca73f7455b79ed86fe2c346f5924"), looks := false }, kinds := [], alts := [], laidByText := true, laidKinds := [.data], laidTests := true, laidLooks := .later }
def FixedRootsUptoCardSaid : Prop := Claim7.holds Tryd.pinned (.plain (OpenSpec.upto fixedRootsSpec)) fixedRootsUptoCard

/-- THE SECOND FORM's CARD OF 'heraldlaw02.FixedPowers'. -/
def fixedPowersUptoCard : Claim7 := { stood := { row := fixedPowersUptoRow, standIns := [], harness := (true, "51380bc062d1d6a2785d113d9e90fb797d11ca73f7455b79ed86fe2c346f5924"), looks := false }, kinds := [], alts := [], laidByText := true, laidKinds := [.data], laidTests := true, laidLooks := .later }
def FixedPowersUptoCardSaid : Prop := Claim7.holds Tryd.pinned (.plain (OpenSpec.upto fixedPowersSpec)) fixedPowersUptoCard

/-- THE SECOND FORM's CARD OF 'heraldlaw02.FixedRises'. -/
def fixedRisesUptoCard : Claim7 := { stood := { row := fixedRisesUptoRow, standIns := [], harness := (true, "51380bc062d1d6a2785d113d9e90fb797d11ca73f7455b79ed86fe2c346f5924"), looks := false }, kinds := [], alts := [], laidByText := true, laidKinds := [.data], laidTests := true, laidLooks := .later }
def FixedRisesUptoCardSaid : Prop := Claim7.holds Tryd.pinned (.plain (OpenSpec.upto fixedRisesSpec)) fixedRisesUptoCard
end Rows
end Go.Proofs.YtohimhojieeloaaDoor
