/-
  NARROWER THAN 'FOR EVERY INPUT', by the rows' own cells (each row's printed sentence says how): FixedNearest: laid · FixedBest: laid · FixedLogs: laid · FixedGrows: laid · FixedProducts: laid · FixedPowersOf: laid.
  DERIVED. THE GIVEN ROWS OF THIS SEAT. 6 by the template 'for every input the law returns true; each argument reads behind the call as it read before'; 0 by the template 'total and deterministic' (their statements: YtomlkdahinemmaaDoorTotals.lean).
  GIVEN WITH THE SEED: the statements are not yours to turn. If you find one false, say at which input.
  Laid BY PROGRAM, IN A SANDBOX (cutbox-rows.mjs): the forced cells as the released guide's own fill.sh prints them over the translation 164f9441f7d769e6… (all of the seat's roots in one cut). By AI agents, Wed Nov 11 2026. No macro, syntax, notation, axiom, sorry.
-/
import Derived.Test.YtomlkdahinemmaaDoorChecked
import GoSem.Claim
import GoSem.ClaimJoined
import GoSem.ClaimMapViews
import Derived.JoinedTies
import Derived.KernelRfl
namespace Go.Proofs.YtomlkdahinemmaaDoor
/- THE CELL 'sum', in the pinned program and in every row, IS THE sha256 OF THE DUMP (.gsa) THAT YtomlkdahinemmaaDoorProg.lean LOADS. Nothing in Lean hashes anything: it is a label: what it is worth is what the hold of that sum in a sandbox is worth. -/
noncomputable def Tryd.pinned : Pinned := { name := "ytomlkdahinemmaadoor", sum := "164f9441f7d769e6ecd05feecffcc5155853cad051abf0b649da30db473b9001", checked := Tryd.checked }
namespace Rows
def none {H : Type} : Left H := { results := [], args := [] }

/- WHAT THE LISTED PACKAGE-LEVEL VARIABLES READ AS WHEN THE CALL BEGINS. Each datum BY PROGRAM (the guide's laid-datum.mjs) off the statement by which the dump's own 'gosem.cut.vars' lays the variable. In a bare row this is a premise. The card (YtomlkdahinemmaaDoorCards.lean) ties it to the program's text. -/
def laid_herald_fixed_bend {H : Type} : DataW H := .agg [.lit (.int .i64 84941200), .lit (.int .i64 241400000), .lit (.int .i64 747400624)]

/-- 'heraldlaw02.FixedNearest': WHATEVER THE INPUT: true; the input reads as it did. -/
def fixedNearestSpec : ChangeSpec := { name := "fixedNearest", fn := fun _ => fun
  | [d1, d2, d3] => { results := [.lit (.bool true)], args := [d1, d2, d3] }
  | _ => none }
def fixedNearestRow : OpenClaim := { program := "ytomlkdahinemmaadoor", sum := "164f9441f7d769e6ecd05feecffcc5155853cad051abf0b649da30db473b9001", func := "herald/heraldlaw02.FixedNearest", spec := "fixedNearest", named := ["herald/fixed.bend"], apart := false, laid := [("herald/fixed.bend", laid_herald_fixed_bend)] }
def FixedNearestSaid : Prop := fixedNearestRow.holds Tryd.pinned (OpenSpec.ofChange fixedNearestSpec)

/-- ITS FALSE NEIGHBOUR: 'it returns false'. Refute it at one input. -/
def fixedNearestWrong : ChangeSpec := { name := "fixedNearest", fn := fun _ => fun
  | [d1, d2, d3] => { results := [.lit (.bool false)], args := [d1, d2, d3] }
  | _ => none }
def FixedNearestWrongFalsely : Prop := fixedNearestRow.holds Tryd.pinned (OpenSpec.ofChange fixedNearestWrong)

/-- 'heraldlaw02.FixedBest': WHATEVER THE INPUT: true; the input reads as it did. -/
def fixedBestSpec : ChangeSpec := { name := "fixedBest", fn := fun _ => fun
  | [d] => { results := [.lit (.bool true)], args := [d] }
  | _ => none }
def fixedBestRow : OpenClaim := { program := "ytomlkdahinemmaadoor", sum := "164f9441f7d769e6ecd05feecffcc5155853cad051abf0b649da30db473b9001", func := "herald/heraldlaw02.FixedBest", spec := "fixedBest", named := ["herald/fixed.bend"], apart := false, laid := [("herald/fixed.bend", laid_herald_fixed_bend)] }
def FixedBestSaid : Prop := fixedBestRow.holds Tryd.pinned (OpenSpec.ofChange fixedBestSpec)

/-- ITS FALSE NEIGHBOUR: 'it returns false'. Refute it at one input. -/
def fixedBestWrong : ChangeSpec := { name := "fixedBest", fn := fun _ => fun
  | [d] => { results := [.lit (.bool false)], args := [d] }
  | _ => none }
def FixedBestWrongFalsely : Prop := fixedBestRow.holds Tryd.pinned (OpenSpec.ofChange fixedBestWrong)

/-- 'heraldlaw02.FixedLogs': WHATEVER THE INPUT: true; the input reads as it did. -/
def fixedLogsSpec : ChangeSpec := { name := "fixedLogs", fn := fun _ => fun
  | [d] => { results := [.lit (.bool true)], args := [d] }
  | _ => none }
def fixedLogsRow : OpenClaim := { program := "ytomlkdahinemmaadoor", sum := "164f9441f7d769e6ecd05feecffcc5155853cad051abf0b649da30db473b9001", func := "herald/heraldlaw02.FixedLogs", spec := "fixedLogs", named := ["herald/fixed.bend"], apart := false, laid := [("herald/fixed.bend", laid_herald_fixed_bend)] }
def FixedLogsSaid : Prop := fixedLogsRow.holds Tryd.pinned (OpenSpec.ofChange fixedLogsSpec)

/-- ITS FALSE NEIGHBOUR: 'it returns false'. Refute it at one input. -/
def fixedLogsWrong : ChangeSpec := { name := "fixedLogs", fn := fun _ => fun
  | [d] => { results := [.lit (.bool false)], args := [d] }
  | _ => none }
def FixedLogsWrongFalsely : Prop := fixedLogsRow.holds Tryd.pinned (OpenSpec.ofChange fixedLogsWrong)

/-- 'heraldlaw02.FixedGrows': WHATEVER THE INPUT: true; the input reads as it did. -/
def fixedGrowsSpec : ChangeSpec := { name := "fixedGrows", fn := fun _ => fun
  | [d1, d2, d3] => { results := [.lit (.bool true)], args := [d1, d2, d3] }
  | _ => none }
def fixedGrowsRow : OpenClaim := { program := "ytomlkdahinemmaadoor", sum := "164f9441f7d769e6ecd05feecffcc5155853cad051abf0b649da30db473b9001", func := "herald/heraldlaw02.FixedGrows", spec := "fixedGrows", named := ["herald/fixed.bend"], apart := false, laid := [("herald/fixed.bend", laid_herald_fixed_bend)] }
def FixedGrowsSaid : Prop := fixedGrowsRow.holds Tryd.pinned (OpenSpec.ofChange fixedGrowsSpec)

/-- ITS FALSE NEIGHBOUR: 'it returns false'. Refute it at one input. -/
def fixedGrowsWrong : ChangeSpec := { name := "fixedGrows", fn := fun _ => fun
  | [d1, d2, d3] => { results := [.lit (.bool false)], args := [d1, d2, d3] }
  | _ => none }
def FixedGrowsWrongFalsely : Prop := fixedGrowsRow.holds Tryd.pinned (OpenSpec.ofChange fixedGrowsWrong)

/-- 'heraldlaw02.FixedProducts': WHATEVER THE INPUT: true; the input reads as it did. -/
def fixedProductsSpec : ChangeSpec := { name := "fixedProducts", fn := fun _ => fun
  | [d1, d2, d3] => { results := [.lit (.bool true)], args := [d1, d2, d3] }
  | _ => none }
def fixedProductsRow : OpenClaim := { program := "ytomlkdahinemmaadoor", sum := "164f9441f7d769e6ecd05feecffcc5155853cad051abf0b649da30db473b9001", func := "herald/heraldlaw02.FixedProducts", spec := "fixedProducts", named := ["herald/fixed.bend", "math/bits.divideError", "math/bits.overflowError"], apart := false, laid := [("herald/fixed.bend", laid_herald_fixed_bend)] }
def FixedProductsSaid : Prop := fixedProductsRow.holds Tryd.pinned (OpenSpec.ofChange fixedProductsSpec)

/-- ITS FALSE NEIGHBOUR: 'it returns false'. Refute it at one input. -/
def fixedProductsWrong : ChangeSpec := { name := "fixedProducts", fn := fun _ => fun
  | [d1, d2, d3] => { results := [.lit (.bool false)], args := [d1, d2, d3] }
  | _ => none }
def FixedProductsWrongFalsely : Prop := fixedProductsRow.holds Tryd.pinned (OpenSpec.ofChange fixedProductsWrong)

/-- 'heraldlaw02.FixedPowersOf': WHATEVER THE INPUT: true; the input reads as it did. -/
def fixedPowersOfSpec : ChangeSpec := { name := "fixedPowersOf", fn := fun _ => fun
  | [d1, d2, d3] => { results := [.lit (.bool true)], args := [d1, d2, d3] }
  | _ => none }
def fixedPowersOfRow : OpenClaim := { program := "ytomlkdahinemmaadoor", sum := "164f9441f7d769e6ecd05feecffcc5155853cad051abf0b649da30db473b9001", func := "herald/heraldlaw02.FixedPowersOf", spec := "fixedPowersOf", named := ["herald/fixed.bend"], apart := false, laid := [("herald/fixed.bend", laid_herald_fixed_bend)] }
def FixedPowersOfSaid : Prop := fixedPowersOfRow.holds Tryd.pinned (OpenSpec.ofChange fixedPowersOfSpec)

/-- ITS FALSE NEIGHBOUR: 'it returns false'. Refute it at one input. -/
def fixedPowersOfWrong : ChangeSpec := { name := "fixedPowersOf", fn := fun _ => fun
  | [d1, d2, d3] => { results := [.lit (.bool false)], args := [d1, d2, d3] }
  | _ => none }
def FixedPowersOfWrongFalsely : Prop := fixedPowersOfRow.holds Tryd.pinned (OpenSpec.ofChange fixedPowersOfWrong)

/- THE SECOND FORM. 'bulk': how many values and letters a reading holds, each counted each time it is reached (what is shared counts as often as it is met; a slice's spare places count too). A statement '..UptoSaid' is the law's where the arguments, and the package variables that the reading takes, are together of bulk at most 1048576: NARROWER than '..Said'. Prove '..Said' where nothing that the law and all that it calls make is longer than what came in: it says more and counts as full. Else prove '..UptoSaid'. A law counts once. -/
mutual
def uptoBulk {H : Type} : DataW H → Nat
  | .lit (.string bytes) => bytes.length + 1
  | .lit _ => 1
  | .nil => 1
  | .ptr d => uptoBulk d + 1
  | .slice elems spare => uptoBulkAll elems + uptoBulkAll spare + 1
  | .agg parts => uptoBulkAll parts + 1
  | .iface _ d => uptoBulk d + 1
  | .map entries => uptoBulkEntries entries + 1
  | .held _ => 1
def uptoBulkAll {H : Type} : List (DataW H) → Nat
  | [] => 0
  | d :: r => uptoBulk d + uptoBulkAll r
def uptoBulkEntries {H : Type} : List (Lit × DataW H) → Nat
  | [] => 0
  | x :: r => uptoBulkEntry x + uptoBulkEntries r
def uptoBulkEntry {H : Type} : Lit × DataW H → Nat
  | (.string bytes, d) => bytes.length + uptoBulk d + 1
  | (_, d) => uptoBulk d + 1
 end
def uptoSmall : (H : Type) → List (DataW H) → Bool := fun _ ds => decide (uptoBulkAll ds ≤ 1048576)
def OpenSpec.upto (s : _root_.Go.ChangeSpec) : _root_.Go.OpenSpec := { _root_.Go.OpenSpec.ofChange s with cond := some uptoSmall }

/-- 'heraldlaw02.FixedNearest', WHERE WHAT IT READS IS OF BULK AT MOST 1048576: true; the input reads as it did. -/
def fixedNearestUptoRow : OpenClaim := { program := "ytomlkdahinemmaadoor", sum := "164f9441f7d769e6ecd05feecffcc5155853cad051abf0b649da30db473b9001", func := "herald/heraldlaw02.FixedNearest", spec := "fixedNearest", named := ["herald/fixed.bend"], apart := false, laid := [("herald/fixed.bend", laid_herald_fixed_bend)], narrowed := true }
def FixedNearestUptoSaid : Prop := fixedNearestUptoRow.holds Tryd.pinned (OpenSpec.upto fixedNearestSpec)

/-- 'heraldlaw02.FixedBest', WHERE WHAT IT READS IS OF BULK AT MOST 1048576: true; the input reads as it did. -/
def fixedBestUptoRow : OpenClaim := { program := "ytomlkdahinemmaadoor", sum := "164f9441f7d769e6ecd05feecffcc5155853cad051abf0b649da30db473b9001", func := "herald/heraldlaw02.FixedBest", spec := "fixedBest", named := ["herald/fixed.bend"], apart := false, laid := [("herald/fixed.bend", laid_herald_fixed_bend)], narrowed := true }
def FixedBestUptoSaid : Prop := fixedBestUptoRow.holds Tryd.pinned (OpenSpec.upto fixedBestSpec)

/-- 'heraldlaw02.FixedLogs', WHERE WHAT IT READS IS OF BULK AT MOST 1048576: true; the input reads as it did. -/
def fixedLogsUptoRow : OpenClaim := { program := "ytomlkdahinemmaadoor", sum := "164f9441f7d769e6ecd05feecffcc5155853cad051abf0b649da30db473b9001", func := "herald/heraldlaw02.FixedLogs", spec := "fixedLogs", named := ["herald/fixed.bend"], apart := false, laid := [("herald/fixed.bend", laid_herald_fixed_bend)], narrowed := true }
def FixedLogsUptoSaid : Prop := fixedLogsUptoRow.holds Tryd.pinned (OpenSpec.upto fixedLogsSpec)

/-- 'heraldlaw02.FixedGrows', WHERE WHAT IT READS IS OF BULK AT MOST 1048576: true; the input reads as it did. -/
def fixedGrowsUptoRow : OpenClaim := { program := "ytomlkdahinemmaadoor", sum := "164f9441f7d769e6ecd05feecffcc5155853cad051abf0b649da30db473b9001", func := "herald/heraldlaw02.FixedGrows", spec := "fixedGrows", named := ["herald/fixed.bend"], apart := false, laid := [("herald/fixed.bend", laid_herald_fixed_bend)], narrowed := true }
def FixedGrowsUptoSaid : Prop := fixedGrowsUptoRow.holds Tryd.pinned (OpenSpec.upto fixedGrowsSpec)

/-- 'heraldlaw02.FixedProducts', WHERE WHAT IT READS IS OF BULK AT MOST 1048576: true; the input reads as it did. -/
def fixedProductsUptoRow : OpenClaim := { program := "ytomlkdahinemmaadoor", sum := "164f9441f7d769e6ecd05feecffcc5155853cad051abf0b649da30db473b9001", func := "herald/heraldlaw02.FixedProducts", spec := "fixedProducts", named := ["herald/fixed.bend", "math/bits.divideError", "math/bits.overflowError"], apart := false, laid := [("herald/fixed.bend", laid_herald_fixed_bend)], narrowed := true }
def FixedProductsUptoSaid : Prop := fixedProductsUptoRow.holds Tryd.pinned (OpenSpec.upto fixedProductsSpec)

/-- 'heraldlaw02.FixedPowersOf', WHERE WHAT IT READS IS OF BULK AT MOST 1048576: true; the input reads as it did. -/
def fixedPowersOfUptoRow : OpenClaim := { program := "ytomlkdahinemmaadoor", sum := "164f9441f7d769e6ecd05feecffcc5155853cad051abf0b649da30db473b9001", func := "herald/heraldlaw02.FixedPowersOf", spec := "fixedPowersOf", named := ["herald/fixed.bend"], apart := false, laid := [("herald/fixed.bend", laid_herald_fixed_bend)], narrowed := true }
def FixedPowersOfUptoSaid : Prop := fixedPowersOfUptoRow.holds Tryd.pinned (OpenSpec.upto fixedPowersOfSpec)

end Rows
end Go.Proofs.YtomlkdahinemmaaDoor
