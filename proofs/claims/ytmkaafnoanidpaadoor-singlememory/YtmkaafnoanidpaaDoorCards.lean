/-
  DERIVED. GIVEN WITH THE SEED: THE CARDS: each row of YtmkaafnoanidpaaDoorRows.lean that lists a variable, with what it lists TIED to the program's text (the seventh form; the later family's looks); each row that meets fmt, with fmt's text TOLD by the authors' own Lean function (tested against real Go, not proved from fmt's source: count such statements apart). THE CARD IS WHAT COUNTS. Prove the row's statement (the work); the ties are given (YtmkaafnoanidpaaDoorTie.lean); close each card by the builder's one call (the guide's Derived/Test/ToyasCard.lean, 'card_holds'). Laid BY PROGRAM, IN A SANDBOX (cutbox-door.mjs). By AI agents, Wed Nov 11 2026. No macro, syntax, notation, axiom, sorry.
-/
import Derived.Test.YtmkaafnoanidpaaDoorRows
import GoSem.ClaimSeven
namespace Go.Proofs.YtmkaafnoanidpaaDoor
namespace Rows

/-- THE TIED CARD OF 'heraldlaw03.SingleOrder'. -/
def singleOrderCard : Claim7 := { stood := { row := singleOrderRow, standIns := [], harness := (true, "843e7be1fef804b5a0558f5514aa4d4a4a3d8812ff43a2d62c78c8e181de7e41"), looks := false }, kinds := [], alts := [], laidByText := true, laidKinds := [.wider], laidTests := true, laidLooks := .later }
def SingleOrderCardSaid : Prop := Claim7.holds Tryd.pinned (.plain (OpenSpec.ofChange singleOrderSpec)) singleOrderCard

/-- THE TIED CARD OF 'heraldlaw03.SingleQuantises'. -/
def singleQuantisesCard : Claim7 := { stood := { row := singleQuantisesRow, standIns := [], harness := (true, "843e7be1fef804b5a0558f5514aa4d4a4a3d8812ff43a2d62c78c8e181de7e41"), looks := false }, kinds := [], alts := [], laidByText := true, laidKinds := [.wider], laidTests := true, laidLooks := .later }
def SingleQuantisesCardSaid : Prop := Claim7.holds Tryd.pinned (.plain (OpenSpec.ofChange singleQuantisesSpec)) singleQuantisesCard

/-- THE TIED CARD OF 'heraldlaw03.SingleScales'. -/
def singleScalesCard : Claim7 := { stood := { row := singleScalesRow, standIns := [], harness := (true, "843e7be1fef804b5a0558f5514aa4d4a4a3d8812ff43a2d62c78c8e181de7e41"), looks := false }, kinds := [], alts := [], laidByText := true, laidKinds := [.wider], laidTests := true, laidLooks := .later }
def SingleScalesCardSaid : Prop := Claim7.holds Tryd.pinned (.plain (OpenSpec.ofChange singleScalesSpec)) singleScalesCard

/-- THE TIED CARD OF 'heraldlaw03.SingleKeeps'. -/
def singleKeepsCard : Claim7 := { stood := { row := singleKeepsRow, standIns := [], harness := (true, "843e7be1fef804b5a0558f5514aa4d4a4a3d8812ff43a2d62c78c8e181de7e41"), looks := false }, kinds := [], alts := [], laidByText := true, laidKinds := [.wider], laidTests := true, laidLooks := .later }
def SingleKeepsCardSaid : Prop := Claim7.holds Tryd.pinned (.plain (OpenSpec.ofChange singleKeepsSpec)) singleKeepsCard

/-- THE TIED CARD OF 'heraldlaw03.SingleMemory'. -/
def singleMemoryCard : Claim7 := { stood := { row := singleMemoryRow, standIns := [], harness := (true, "843e7be1fef804b5a0558f5514aa4d4a4a3d8812ff43a2d62c78c8e181de7e41"), looks := false }, kinds := [], alts := [], laidByText := true, laidKinds := [.wider], laidTests := true, laidLooks := .later }
def SingleMemoryCardSaid : Prop := Claim7.holds Tryd.pinned (.plain (OpenSpec.ofChange singleMemorySpec)) singleMemoryCard

/-- THE TIED CARD OF 'heraldlaw03.SingleDivides'. -/
def singleDividesCard : Claim7 := { stood := { row := singleDividesRow, standIns := [], harness := (true, "843e7be1fef804b5a0558f5514aa4d4a4a3d8812ff43a2d62c78c8e181de7e41"), looks := false }, kinds := [], alts := [], laidByText := true, laidKinds := [.wider], laidTests := true, laidLooks := .later }
def SingleDividesCardSaid : Prop := Claim7.holds Tryd.pinned (.plain (OpenSpec.ofChange singleDividesSpec)) singleDividesCard

/-- THE SECOND FORM's CARD OF 'heraldlaw03.SingleOrder'. -/
def singleOrderUptoCard : Claim7 := { stood := { row := singleOrderUptoRow, standIns := [], harness := (true, "843e7be1fef804b5a0558f5514aa4d4a4a3d8812ff43a2d62c78c8e181de7e41"), looks := false }, kinds := [], alts := [], laidByText := true, laidKinds := [.wider], laidTests := true, laidLooks := .later }
def SingleOrderUptoCardSaid : Prop := Claim7.holds Tryd.pinned (.plain (OpenSpec.upto singleOrderSpec)) singleOrderUptoCard

/-- THE SECOND FORM's CARD OF 'heraldlaw03.SingleQuantises'. -/
def singleQuantisesUptoCard : Claim7 := { stood := { row := singleQuantisesUptoRow, standIns := [], harness := (true, "843e7be1fef804b5a0558f5514aa4d4a4a3d8812ff43a2d62c78c8e181de7e41"), looks := false }, kinds := [], alts := [], laidByText := true, laidKinds := [.wider], laidTests := true, laidLooks := .later }
def SingleQuantisesUptoCardSaid : Prop := Claim7.holds Tryd.pinned (.plain (OpenSpec.upto singleQuantisesSpec)) singleQuantisesUptoCard

/-- THE SECOND FORM's CARD OF 'heraldlaw03.SingleScales'. -/
def singleScalesUptoCard : Claim7 := { stood := { row := singleScalesUptoRow, standIns := [], harness := (true, "843e7be1fef804b5a0558f5514aa4d4a4a3d8812ff43a2d62c78c8e181de7e41"), looks := false }, kinds := [], alts := [], laidByText := true, laidKinds := [.wider], laidTests := true, laidLooks := .later }
def SingleScalesUptoCardSaid : Prop := Claim7.holds Tryd.pinned (.plain (OpenSpec.upto singleScalesSpec)) singleScalesUptoCard

/-- THE SECOND FORM's CARD OF 'heraldlaw03.SingleKeeps'. -/
def singleKeepsUptoCard : Claim7 := { stood := { row := singleKeepsUptoRow, standIns := [], harness := (true, "843e7be1fef804b5a0558f5514aa4d4a4a3d8812ff43a2d62c78c8e181de7e41"), looks := false }, kinds := [], alts := [], laidByText := true, laidKinds := [.wider], laidTests := true, laidLooks := .later }
def SingleKeepsUptoCardSaid : Prop := Claim7.holds Tryd.pinned (.plain (OpenSpec.upto singleKeepsSpec)) singleKeepsUptoCard

/-- THE SECOND FORM's CARD OF 'heraldlaw03.SingleMemory'. -/
def singleMemoryUptoCard : Claim7 := { stood := { row := singleMemoryUptoRow, standIns := [], harness := (true, "843e7be1fef804b5a0558f5514aa4d4a4a3d8812ff43a2d62c78c8e181de7e41"), looks := false }, kinds := [], alts := [], laidByText := true, laidKinds := [.wider], laidTests := true, laidLooks := .later }
def SingleMemoryUptoCardSaid : Prop := Claim7.holds Tryd.pinned (.plain (OpenSpec.upto singleMemorySpec)) singleMemoryUptoCard

/-- THE SECOND FORM's CARD OF 'heraldlaw03.SingleDivides'. -/
def singleDividesUptoCard : Claim7 := { stood := { row := singleDividesUptoRow, standIns := [], harness := (true, "843e7be1fef804b5a0558f5514aa4d4a4a3d8812ff43a2d62c78c8e181de7e41"), looks := false }, kinds := [], alts := [], laidByText := true, laidKinds := [.wider], laidTests := true, laidLooks := .later }
def SingleDividesUptoCardSaid : Prop := Claim7.holds Tryd.pinned (.plain (OpenSpec.upto singleDividesSpec)) singleDividesUptoCard
end Rows
end Go.Proofs.YtmkaafnoanidpaaDoor
