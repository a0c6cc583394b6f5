/-
  DERIVED. GIVEN WITH THE SEED: THE CARDS: each row of YtkolpdfakhlkeaaDoorRows.lean that lists a variable, with what it lists TIED to the program's text (the seventh form; the later family's looks); each row that meets fmt, with fmt's text TOLD by the authors' own Lean function (tested against real Go, not proved from fmt's source: count such statements apart). THE CARD IS WHAT COUNTS. Prove the row's statement (the work); the ties are given (YtkolpdfakhlkeaaDoorTie.lean); close each card by the builder's one call (the guide's Derived/Test/ToyasCard.lean, 'card_holds'). Laid BY PROGRAM, IN A SANDBOX (cutbox-door.mjs). By AI agents, Wed Nov 11 2026. No macro, syntax, notation, axiom, sorry.
-/
import Derived.Test.YtkolpdfakhlkeaaDoorRows
import GoSem.ClaimSeven
namespace Go.Proofs.YtkolpdfakhlkeaaDoor
namespace Rows

/-- THE TIED CARD OF 'heraldlaw11.SoftWeighs'. -/
def softWeighsCard : Claim7 := { stood := { row := softWeighsRow, standIns := [], harness := (true, "51d22a83adccc09a7ef555b5ce31b5b710fa376523b490e0ffbc064d12dc5831"), looks := false }, kinds := [], alts := [], laidByText := true, laidKinds := [.data], laidTests := true, laidLooks := .later }
def SoftWeighsCardSaid : Prop := Claim7.holds Tryd.pinned (.plain (OpenSpec.ofChange softWeighsSpec)) softWeighsCard

/-- THE TIED CARD OF 'heraldlaw11.SoftMean'. -/
def softMeanCard : Claim7 := { stood := { row := softMeanRow, standIns := [], harness := (true, "51d22a83adccc09a7ef555b5ce31b5b710fa376523b490e0ffbc064d12dc5831"), looks := false }, kinds := [], alts := [], laidByText := true, laidKinds := [.data], laidTests := true, laidLooks := .later }
def SoftMeanCardSaid : Prop := Claim7.holds Tryd.pinned (.plain (OpenSpec.ofChange softMeanSpec)) softMeanCard

/-- THE TIED CARD OF 'heraldlaw11.SoftMeans'. -/
def softMeansCard : Claim7 := { stood := { row := softMeansRow, standIns := [], harness := (true, "51d22a83adccc09a7ef555b5ce31b5b710fa376523b490e0ffbc064d12dc5831"), looks := false }, kinds := [], alts := [], laidByText := true, laidKinds := [.data], laidTests := true, laidLooks := .later }
def SoftMeansCardSaid : Prop := Claim7.holds Tryd.pinned (.plain (OpenSpec.ofChange softMeansSpec)) softMeansCard

/-- THE TIED CARD OF 'heraldlaw11.SoftShifts'. -/
def softShiftsCard : Claim7 := { stood := { row := softShiftsRow, standIns := [], harness := (true, "51d22a83adccc09a7ef555b5ce31b5b710fa376523b490e0ffbc064d12dc5831"), looks := false }, kinds := [], alts := [], laidByText := true, laidKinds := [.data], laidTests := true, laidLooks := .later }
def SoftShiftsCardSaid : Prop := Claim7.holds Tryd.pinned (.plain (OpenSpec.ofChange softShiftsSpec)) softShiftsCard

/-- THE TIED CARD OF 'heraldlaw11.SoftBetween'. -/
def softBetweenCard : Claim7 := { stood := { row := softBetweenRow, standIns := [], harness := (true, "51d22a83adccc09a7ef555b5ce31b5b710fa376523b490e0ffbc064d12dc5831"), looks := false }, kinds := [], alts := [], laidByText := true, laidKinds := [.data], laidTests := true, laidLooks := .later }
def SoftBetweenCardSaid : Prop := Claim7.holds Tryd.pinned (.plain (OpenSpec.ofChange softBetweenSpec)) softBetweenCard

/-- THE TIED CARD OF 'heraldlaw11.SoftTurns'. -/
def softTurnsCard : Claim7 := { stood := { row := softTurnsRow, standIns := [], harness := (true, "51d22a83adccc09a7ef555b5ce31b5b710fa376523b490e0ffbc064d12dc5831"), looks := false }, kinds := [], alts := [], laidByText := true, laidKinds := [.data], laidTests := true, laidLooks := .later }
def SoftTurnsCardSaid : Prop := Claim7.holds Tryd.pinned (.plain (OpenSpec.ofChange softTurnsSpec)) softTurnsCard

/-- THE SECOND FORM's CARD OF 'heraldlaw11.SoftWeighs'. -/
def softWeighsUptoCard : Claim7 := { stood := { row := softWeighsUptoRow, standIns := [], harness := (true, "51d22a83adccc09a7ef555b5ce31b5b710fa376523b490e0ffbc064d12dc5831"), looks := false }, kinds := [], alts := [], laidByText := true, laidKinds := [.data], laidTests := true, laidLooks := .later }
def SoftWeighsUptoCardSaid : Prop := Claim7.holds Tryd.pinned (.plain (OpenSpec.upto softWeighsSpec)) softWeighsUptoCard

/-- THE SECOND FORM's CARD OF 'heraldlaw11.SoftMean'. -/
def softMeanUptoCard : Claim7 := { stood := { row := softMeanUptoRow, standIns := [], harness := (true, "51d22a83adccc09a7ef555b5ce31b5b710fa376523b490e0ffbc064d12dc5831"), looks := false }, kinds := [], alts := [], laidByText := true, laidKinds := [.data], laidTests := true, laidLooks := .later }
def SoftMeanUptoCardSaid : Prop := Claim7.holds Tryd.pinned (.plain (OpenSpec.upto softMeanSpec)) softMeanUptoCard

/-- THE SECOND FORM's CARD OF 'heraldlaw11.SoftMeans'. -/
def softMeansUptoCard : Claim7 := { stood := { row := softMeansUptoRow, standIns := [], harness := (true, "51d22a83adccc09a7ef555b5ce31b5b710fa376523b490e0ffbc064d12dc5831"), looks := false }, kinds := [], alts := [], laidByText := true, laidKinds := [.data], laidTests := true, laidLooks := .later }
def SoftMeansUptoCardSaid : Prop := Claim7.holds Tryd.pinned (.plain (OpenSpec.upto softMeansSpec)) softMeansUptoCard

/-- THE SECOND FORM's CARD OF 'heraldlaw11.SoftShifts'. -/
def softShiftsUptoCard : Claim7 := { stood := { row := softShiftsUptoRow, standIns := [], harness := (true, "51d22a83adccc09a7ef555b5ce31b5b710fa376523b490e0ffbc064d12dc5831"), looks := false }, kinds := [], alts := [], laidByText := true, laidKinds := [.data], laidTests := true, laidLooks := .later }
def SoftShiftsUptoCardSaid : Prop := Claim7.holds Tryd.pinned (.plain (OpenSpec.upto softShiftsSpec)) softShiftsUptoCard

/-- THE SECOND FORM's CARD OF 'heraldlaw11.SoftBetween'. -/
def softBetweenUptoCard : Claim7 := { stood := { row := softBetweenUptoRow, standIns := [], harness := (true, "51d22a83adccc09a7ef555b5ce31b5b710fa376523b490e0ffbc064d12dc5831"), looks := false }, kinds := [], alts := [], laidByText := true, laidKinds := [.data], laidTests := true, laidLooks := .later }
def SoftBetweenUptoCardSaid : Prop := Claim7.holds Tryd.pinned (.plain (OpenSpec.upto softBetweenSpec)) softBetweenUptoCard

/-- THE SECOND FORM's CARD OF 'heraldlaw11.SoftTurns'. -/
def softTurnsUptoCard : Claim7 := { stood := { row := softTurnsUptoRow, standIns := [], harness := (true, "51d22a83adccc09a7ef555b5ce31b5b710fa376523b490e0ffbc064d12dc5831"), looks := false }, kinds := [], alts := [], laidByText := true, laidKinds := [.data], laidTests := true, laidLooks := .later }
def SoftTurnsUptoCardSaid : Prop := Claim7.holds Tryd.pinned (.plain (OpenSpec.upto softTurnsSpec)) softTurnsUptoCard
end Rows
end Go.Proofs.YtkolpdfakhlkeaaDoor
