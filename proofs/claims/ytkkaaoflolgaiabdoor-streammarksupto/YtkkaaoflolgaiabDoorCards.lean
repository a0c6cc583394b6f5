/-
  DERIVED. GIVEN WITH THE SEED: THE CARDS: each row of YtkkaaoflolgaiabDoorRows.lean that lists a variable, with what it lists TIED to the program's text (the seventh form; the later family's looks); each row that meets fmt, with fmt's text TOLD by the authors' own Lean function (tested against real Go, not proved from fmt's source: count such statements apart). THE CARD IS WHAT COUNTS. Prove the row's statement (the work); the ties are given (YtkkaaoflolgaiabDoorTie.lean); close each card by the builder's one call (the guide's Derived/Test/ToyasCard.lean, 'card_holds'). Laid BY PROGRAM, IN A SANDBOX (cutbox-door.mjs). By AI agents, Wed Nov 11 2026. No macro, syntax, notation, axiom, sorry.
-/
import Derived.Test.YtkkaaoflolgaiabDoorRows
import GoSem.ClaimSeven
namespace Go.Proofs.YtkkaaoflolgaiabDoor
namespace Rows

/-- THE TIED CARD OF 'heraldlaw14.StreamMarks'. -/
def streamMarksCard : Claim7 := { stood := { row := streamMarksRow, standIns := [], harness := (true, "9c9cbfc3eb30149f36ff0c5dfb0b6f76116f1a27e54633813b656f50506cf2de"), looks := true }, kinds := [], alts := [], laidByText := true, laidKinds := [.data, .pinned], laidTests := true, laidLooks := .later }
def StreamMarksCardSaid : Prop := Claim7.holds Tryd.pinned (.plain (OpenSpec.ofChange streamMarksSpec)) streamMarksCard

/-- THE TIED CARD OF 'heraldlaw14.StreamQuotes'. -/
def streamQuotesCard : Claim7 := { stood := { row := streamQuotesRow, standIns := [], harness := (true, "9c9cbfc3eb30149f36ff0c5dfb0b6f76116f1a27e54633813b656f50506cf2de"), looks := true }, kinds := [], alts := [], laidByText := true, laidKinds := [.data, .data, .data, .data, .sentinel, .sentinel, .pinned], laidTests := true, laidLooks := .later }
def StreamQuotesCardSaid : Prop := Claim7.holds Tryd.pinned (.plain (OpenSpec.ofChange streamQuotesSpec)) streamQuotesCard

/-- THE TIED CARD OF 'heraldlaw14.StreamUnquotes'. -/
def streamUnquotesCard : Claim7 := { stood := { row := streamUnquotesRow, standIns := [], harness := (true, "9c9cbfc3eb30149f36ff0c5dfb0b6f76116f1a27e54633813b656f50506cf2de"), looks := true }, kinds := [], alts := [], laidByText := true, laidKinds := [.data, .data, .data, .data, .sentinel, .sentinel, .pinned], laidTests := true, laidLooks := .later }
def StreamUnquotesCardSaid : Prop := Claim7.holds Tryd.pinned (.plain (OpenSpec.ofChange streamUnquotesSpec)) streamUnquotesCard

/-- THE TIED CARD OF 'heraldlaw14.StreamEvents'. -/
def streamEventsCard : Claim7 := { stood := { row := streamEventsRow, standIns := [], harness := (true, "9c9cbfc3eb30149f36ff0c5dfb0b6f76116f1a27e54633813b656f50506cf2de"), looks := true }, kinds := [], alts := [], laidByText := true, laidKinds := [.data, .pinned], laidTests := true, laidLooks := .later }
def StreamEventsCardSaid : Prop := Claim7.holds Tryd.pinned (.plain (OpenSpec.ofChange streamEventsSpec)) streamEventsCard

/-- THE TIED CARD OF 'heraldlaw14.StreamReads'. -/
def streamReadsCard : Claim7 := { stood := { row := streamReadsRow, standIns := [], harness := (true, "9c9cbfc3eb30149f36ff0c5dfb0b6f76116f1a27e54633813b656f50506cf2de"), looks := true }, kinds := [], alts := [], laidByText := true, laidKinds := [.data, .pinned], laidTests := true, laidLooks := .later }
def StreamReadsCardSaid : Prop := Claim7.holds Tryd.pinned (.plain (OpenSpec.ofChange streamReadsSpec)) streamReadsCard

/-- THE SECOND FORM's CARD OF 'heraldlaw14.StreamMarks'. -/
def streamMarksUptoCard : Claim7 := { stood := { row := streamMarksUptoRow, standIns := [], harness := (true, "9c9cbfc3eb30149f36ff0c5dfb0b6f76116f1a27e54633813b656f50506cf2de"), looks := true }, kinds := [], alts := [], laidByText := true, laidKinds := [.data, .pinned], laidTests := true, laidLooks := .later }
def StreamMarksUptoCardSaid : Prop := Claim7.holds Tryd.pinned (.plain (OpenSpec.upto streamMarksSpec)) streamMarksUptoCard

/-- THE SECOND FORM's CARD OF 'heraldlaw14.StreamQuotes'. -/
def streamQuotesUptoCard : Claim7 := { stood := { row := streamQuotesUptoRow, standIns := [], harness := (true, "9c9cbfc3eb30149f36ff0c5dfb0b6f76116f1a27e54633813b656f50506cf2de"), looks := true }, kinds := [], alts := [], laidByText := true, laidKinds := [.data, .data, .data, .data, .sentinel, .sentinel, .pinned], laidTests := true, laidLooks := .later }
def StreamQuotesUptoCardSaid : Prop := Claim7.holds Tryd.pinned (.plain (OpenSpec.upto streamQuotesSpec)) streamQuotesUptoCard

/-- THE SECOND FORM's CARD OF 'heraldlaw14.StreamUnquotes'. -/
def streamUnquotesUptoCard : Claim7 := { stood := { row := streamUnquotesUptoRow, standIns := [], harness := (true, "9c9cbfc3eb30149f36ff0c5dfb0b6f76116f1a27e54633813b656f50506cf2de"), looks := true }, kinds := [], alts := [], laidByText := true, laidKinds := [.data, .data, .data, .data, .sentinel, .sentinel, .pinned], laidTests := true, laidLooks := .later }
def StreamUnquotesUptoCardSaid : Prop := Claim7.holds Tryd.pinned (.plain (OpenSpec.upto streamUnquotesSpec)) streamUnquotesUptoCard

/-- THE SECOND FORM's CARD OF 'heraldlaw14.StreamEvents'. -/
def streamEventsUptoCard : Claim7 := { stood := { row := streamEventsUptoRow, standIns := [], harness := (true, "9c9cbfc3eb30149f36ff0c5dfb0b6f76116f1a27e54633813b656f50506cf2de"), looks := true }, kinds := [], alts := [], laidByText := true, laidKinds := [.data, .pinned], laidTests := true, laidLooks := .later }
def StreamEventsUptoCardSaid : Prop := Claim7.holds Tryd.pinned (.plain (OpenSpec.upto streamEventsSpec)) streamEventsUptoCard

/-- THE SECOND FORM's CARD OF 'heraldlaw14.StreamReads'. -/
def streamReadsUptoCard : Claim7 := { stood := { row := streamReadsUptoRow, standIns := [], harness := (true, "9c9cbfc3eb30149f36ff0c5dfb0b6f76116f1a27e54633813b656f50506cf2de"), looks := true }, kinds := [], alts := [], laidByText := true, laidKinds := [.data, .pinned], laidTests := true, laidLooks := .later }
def StreamReadsUptoCardSaid : Prop := Claim7.holds Tryd.pinned (.plain (OpenSpec.upto streamReadsSpec)) streamReadsUptoCard
end Rows
end Go.Proofs.YtkkaaoflolgaiabDoor
