/-
  NARROWER THAN 'FOR EVERY INPUT', by the rows' own cells (each row's printed sentence says how): FixedSums: laid · FixedBounds: laid · FixedRounds: laid · FixedRoots: laid · FixedPowers: laid · FixedRises: laid.
  DERIVED. THE GIVEN ROWS OF THIS SEAT. 6 by the template 'for every input the law returns true; each argument reads behind the call as it read before'; 0 by the template 'total and deterministic' (their statements: YtohimhojieeloaaDoorTotals.lean).
  GIVEN WITH THE SEED: the statements are not yours to turn. If you find one false, say at which input.
  Laid BY PROGRAM, IN A SANDBOX (cutbox-rows.mjs): the forced cells as the released guide's own fill.sh prints them over the translation 304a6781627e5160… (all of the seat's roots in one cut). By AI agents, Wed Nov 11 2026. No macro, syntax, notation, axiom, sorry.
-/
import Derived.Test.YtohimhojieeloaaDoorChecked
import GoSem.Claim
import GoSem.ClaimJoined
import GoSem.ClaimMapViews
import Derived.JoinedTies
import Derived.KernelRfl
namespace Go.Proofs.YtohimhojieeloaaDoor
/- THE CELL 'sum', in the pinned program and in every row, IS THE sha256 OF THE DUMP (.gsa) THAT YtohimhojieeloaaDoorProg.lean LOADS. Nothing in Lean hashes anything: it is a label: what it is worth is what the hold of that sum in a sandbox is worth. -/
noncomputable def Tryd.pinned : Pinned := { name := "ytohimhojieeloaadoor", sum := "304a6781627e5160968f8368d5573a2ef43dfb5d9f8b303246253537b77fdfdc", checked := Tryd.checked }
namespace Rows
def none {H : Type} : Left H := { results := [], args := [] }

/- WHAT THE LISTED PACKAGE-LEVEL VARIABLES READ AS WHEN THE CALL BEGINS. Each datum BY PROGRAM (the guide's laid-datum.mjs) off the statement by which the dump's own 'gosem.cut.vars' lays the variable. In a bare row this is a premise. The card (YtohimhojieeloaaDoorCards.lean) ties it to the program's text. -/
def laid_herald_fixed_bend {H : Type} : DataW H := .agg [.lit (.int .i64 84941200), .lit (.int .i64 241400000), .lit (.int .i64 747400624)]

/-- 'heraldlaw02.FixedSums': WHATEVER THE INPUT: true; the input reads as it did. -/
def fixedSumsSpec : ChangeSpec := { name := "fixedSums", fn := fun _ => fun
  | [d1, d2, d3] => { results := [.lit (.bool true)], args := [d1, d2, d3] }
  | _ => none }
def fixedSumsRow : OpenClaim := { program := "ytohimhojieeloaadoor", sum := "304a6781627e5160968f8368d5573a2ef43dfb5d9f8b303246253537b77fdfdc", func := "herald/heraldlaw02.FixedSums", spec := "fixedSums", inPlace := ["math/bits.Add64"], named := ["herald/fixed.bend"], apart := false, laid := [("herald/fixed.bend", laid_herald_fixed_bend)] }
def FixedSumsSaid : Prop := fixedSumsRow.holds Tryd.pinned (OpenSpec.ofChange fixedSumsSpec)

/-- ITS FALSE NEIGHBOUR: 'it returns false'. Refute it at one input. -/
def fixedSumsWrong : ChangeSpec := { name := "fixedSums", fn := fun _ => fun
  | [d1, d2, d3] => { results := [.lit (.bool false)], args := [d1, d2, d3] }
  | _ => none }
def FixedSumsWrongFalsely : Prop := fixedSumsRow.holds Tryd.pinned (OpenSpec.ofChange fixedSumsWrong)

/-- 'heraldlaw02.FixedBounds': WHATEVER THE INPUT: true; the input reads as it did. -/
def fixedBoundsSpec : ChangeSpec := { name := "fixedBounds", fn := fun _ => fun
  | [d1, d2, d3] => { results := [.lit (.bool true)], args := [d1, d2, d3] }
  | _ => none }
def fixedBoundsRow : OpenClaim := { program := "ytohimhojieeloaadoor", sum := "304a6781627e5160968f8368d5573a2ef43dfb5d9f8b303246253537b77fdfdc", func := "herald/heraldlaw02.FixedBounds", spec := "fixedBounds", named := ["herald/fixed.bend"], apart := false, laid := [("herald/fixed.bend", laid_herald_fixed_bend)] }
def FixedBoundsSaid : Prop := fixedBoundsRow.holds Tryd.pinned (OpenSpec.ofChange fixedBoundsSpec)

/-- ITS FALSE NEIGHBOUR: 'it returns false'. Refute it at one input. -/
def fixedBoundsWrong : ChangeSpec := { name := "fixedBounds", fn := fun _ => fun
  | [d1, d2, d3] => { results := [.lit (.bool false)], args := [d1, d2, d3] }
  | _ => none }
def FixedBoundsWrongFalsely : Prop := fixedBoundsRow.holds Tryd.pinned (OpenSpec.ofChange fixedBoundsWrong)

/-- 'heraldlaw02.FixedRounds': WHATEVER THE INPUT: true; the input reads as it did. -/
def fixedRoundsSpec : ChangeSpec := { name := "fixedRounds", fn := fun _ => fun
  | [d1, d2, d3] => { results := [.lit (.bool true)], args := [d1, d2, d3] }
  | _ => none }
def fixedRoundsRow : OpenClaim := { program := "ytohimhojieeloaadoor", sum := "304a6781627e5160968f8368d5573a2ef43dfb5d9f8b303246253537b77fdfdc", func := "herald/heraldlaw02.FixedRounds", spec := "fixedRounds", named := ["herald/fixed.bend"], apart := false, laid := [("herald/fixed.bend", laid_herald_fixed_bend)] }
def FixedRoundsSaid : Prop := fixedRoundsRow.holds Tryd.pinned (OpenSpec.ofChange fixedRoundsSpec)

/-- ITS FALSE NEIGHBOUR: 'it returns false'. Refute it at one input. -/
def fixedRoundsWrong : ChangeSpec := { name := "fixedRounds", fn := fun _ => fun
  | [d1, d2, d3] => { results := [.lit (.bool false)], args := [d1, d2, d3] }
  | _ => none }
def FixedRoundsWrongFalsely : Prop := fixedRoundsRow.holds Tryd.pinned (OpenSpec.ofChange fixedRoundsWrong)

/-- 'heraldlaw02.FixedRoots': WHATEVER THE INPUT: true; the input reads as it did. -/
def fixedRootsSpec : ChangeSpec := { name := "fixedRoots", fn := fun _ => fun
  | [d] => { results := [.lit (.bool true)], args := [d] }
  | _ => none }
def fixedRootsRow : OpenClaim := { program := "ytohimhojieeloaadoor", sum := "304a6781627e5160968f8368d5573a2ef43dfb5d9f8b303246253537b77fdfdc", func := "herald/heraldlaw02.FixedRoots", spec := "fixedRoots", named := ["herald/fixed.bend"], apart := false, laid := [("herald/fixed.bend", laid_herald_fixed_bend)] }
def FixedRootsSaid : Prop := fixedRootsRow.holds Tryd.pinned (OpenSpec.ofChange fixedRootsSpec)

/-- ITS FALSE NEIGHBOUR: 'it returns false'. Refute it at one input. -/
def fixedRootsWrong : ChangeSpec := { name := "fixedRoots", fn := fun _ => fun
  | [d] => { results := [.lit (.bool false)], args := [d] }
  | _ => none }
def FixedRootsWrongFalsely : Prop := fixedRootsRow.holds Tryd.pinned (OpenSpec.ofChange fixedRootsWrong)

/-- 'heraldlaw02.FixedPowers': WHATEVER THE INPUT: true; the input reads as it did. -/
def fixedPowersSpec : ChangeSpec := { name := "fixedPowers", fn := fun _ => fun
  | [d] => { results := [.lit (.bool true)], args := [d] }
  | _ => none }
def fixedPowersRow : OpenClaim := { program := "ytohimhojieeloaadoor", sum := "304a6781627e5160968f8368d5573a2ef43dfb5d9f8b303246253537b77fdfdc", func := "herald/heraldlaw02.FixedPowers", spec := "fixedPowers", named := ["herald/fixed.bend"], apart := false, laid := [("herald/fixed.bend", laid_herald_fixed_bend)] }
def FixedPowersSaid : Prop := fixedPowersRow.holds Tryd.pinned (OpenSpec.ofChange fixedPowersSpec)

/-- ITS FALSE NEIGHBOUR: 'it returns false'. Refute it at one input. -/
def fixedPowersWrong : ChangeSpec := { name := "fixedPowers", fn := fun _ => fun
  | [d] => { results := [.lit (.bool false)], args := [d] }
  | _ => none }
def FixedPowersWrongFalsely : Prop := fixedPowersRow.holds Tryd.pinned (OpenSpec.ofChange fixedPowersWrong)

/-- 'heraldlaw02.FixedRises': WHATEVER THE INPUT: true; the input reads as it did. -/
def fixedRisesSpec : ChangeSpec := { name := "fixedRises", fn := fun _ => fun
  | [d1, d2] => { results := [.lit (.bool true)], args := [d1, d2] }
  | _ => none }
def fixedRisesRow : OpenClaim := { program := "ytohimhojieeloaadoor", sum := "304a6781627e5160968f8368d5573a2ef43dfb5d9f8b303246253537b77fdfdc", func := "herald/heraldlaw02.FixedRises", spec := "fixedRises", named := ["herald/fixed.bend"], apart := false, laid := [("herald/fixed.bend", laid_herald_fixed_bend)] }
def FixedRisesSaid : Prop := fixedRisesRow.holds Tryd.pinned (OpenSpec.ofChange fixedRisesSpec)

/-- ITS FALSE NEIGHBOUR: 'it returns false'. Refute it at one input. -/
def fixedRisesWrong : ChangeSpec := { name := "fixedRises", fn := fun _ => fun
  | [d1, d2] => { results := [.lit (.bool false)], args := [d1, d2] }
  | _ => none }
def FixedRisesWrongFalsely : Prop := fixedRisesRow.holds Tryd.pinned (OpenSpec.ofChange fixedRisesWrong)

/- THE SECOND FORM. 'bulk': how many values and letters a reading holds, each counted each time it is reached (what is shared counts as often as it is met; a slice's spare places count too). A statement '..UptoSaid' is the law's where the arguments, and the package variables that the reading takes, are together of bulk at most 1048576: NARROWER than '..Said'. Prove '..Said' where nothing that the law and all that it calls make is longer than what came in: it says more and counts as full. Else prove '..UptoSaid'. A law counts once. -/
mutual
def uptoBulk {H : Type} : DataW H → Nat
  | .lit (.string bytes) => bytes.length + 1
  | .lit _ => 1
  | .nil => 1
  | .ptr d => uptoBulk d + 1
  | .slice elems spare => uptoBulkAll elems + uptoBulkAll spare + 1
  | .agg parts => uptoBulkAll parts + 1
  | .iface _ d => uptoBulk d + 1
  | .map entries => uptoBulkEntries entries + 1
  | .held _ => 1
def uptoBulkAll {H : Type} : List (DataW H) → Nat
  | [] => 0
  | d :: r => uptoBulk d + uptoBulkAll r
def uptoBulkEntries {H : Type} : List (Lit × DataW H) → Nat
  | [] => 0
  | x :: r => uptoBulkEntry x + uptoBulkEntries r
def uptoBulkEntry {H : Type} : Lit × DataW H → Nat
  | (.string bytes, d) => bytes.length + uptoBulk d + 1
  | (_, d) => uptoBulk d + 1
 end
def uptoSmall : (H : Type) → List (DataW H) → Bool := fun _ ds => decide (uptoBulkAll ds ≤ 1048576)
def OpenSpec.upto (s : _root_.Go.ChangeSpec) : _root_.Go.OpenSpec := { _root_.Go.OpenSpec.ofChange s with cond := some uptoSmall }

/-- 'heraldlaw02.FixedSums', WHERE WHAT IT READS IS OF BULK AT MOST 1048576: true; the input reads as it did. -/
def fixedSumsUptoRow : OpenClaim := { program := "ytohimhojieeloaadoor", sum := "304a6781627e5160968f8368d5573a2ef43dfb5d9f8b303246253537b77fdfdc", func := "herald/heraldlaw02.FixedSums", spec := "fixedSums", inPlace := ["math/bits.Add64"], named := ["herald/fixed.bend"], apart := false, laid := [("herald/fixed.bend", laid_herald_fixed_bend)], narrowed := true }
def FixedSumsUptoSaid : Prop := fixedSumsUptoRow.holds Tryd.pinned (OpenSpec.upto fixedSumsSpec)

/-- 'heraldlaw02.FixedBounds', WHERE WHAT IT READS IS OF BULK AT MOST 1048576: true; the input reads as it did. -/
def fixedBoundsUptoRow : OpenClaim := { program := "ytohimhojieeloaadoor", sum := "304a6781627e5160968f8368d5573a2ef43dfb5d9f8b303246253537b77fdfdc", func := "herald/heraldlaw02.FixedBounds", spec := "fixedBounds", named := ["herald/fixed.bend"], apart := false, laid := [("herald/fixed.bend", laid_herald_fixed_bend)], narrowed := true }
def FixedBoundsUptoSaid : Prop := fixedBoundsUptoRow.holds Tryd.pinned (OpenSpec.upto fixedBoundsSpec)

/-- 'heraldlaw02.FixedRounds', WHERE WHAT IT READS IS OF BULK AT MOST 1048576: true; the input reads as it did. -/
def fixedRoundsUptoRow : OpenClaim := { program := "ytohimhojieeloaadoor", sum := "304a6781627e5160968f8368d5573a2ef43dfb5d9f8b303246253537b77fdfdc", func := "herald/heraldlaw02.FixedRounds", spec := "fixedRounds", named := ["herald/fixed.bend"], apart := false, laid := [("herald/fixed.bend", laid_herald_fixed_bend)], narrowed := true }
def FixedRoundsUptoSaid : Prop := fixedRoundsUptoRow.holds Tryd.pinned (OpenSpec.upto fixedRoundsSpec)

/-- 'heraldlaw02.FixedRoots', WHERE WHAT IT READS IS OF BULK AT MOST 1048576: true; the input reads as it did. -/
def fixedRootsUptoRow : OpenClaim := { program := "ytohimhojieeloaadoor", sum := "304a6781627e5160968f8368d5573a2ef43dfb5d9f8b303246253537b77fdfdc", func := "herald/heraldlaw02.FixedRoots", spec := "fixedRoots", named := ["herald/fixed.bend"], apart := false, laid := [("herald/fixed.bend", laid_herald_fixed_bend)], narrowed := true }
def FixedRootsUptoSaid : Prop := fixedRootsUptoRow.holds Tryd.pinned (OpenSpec.upto fixedRootsSpec)

/-- 'heraldlaw02.FixedPowers', WHERE WHAT IT READS IS OF BULK AT MOST 1048576: true; the input reads as it did. -/
def fixedPowersUptoRow : OpenClaim := { program := "ytohimhojieeloaadoor", sum := "304a6781627e5160968f8368d5573a2ef43dfb5d9f8b303246253537b77fdfdc", func := "herald/heraldlaw02.FixedPowers", spec := "fixedPowers", named := ["herald/fixed.bend"], apart := false, laid := [("herald/fixed.bend", laid_herald_fixed_bend)], narrowed := true }
def FixedPowersUptoSaid : Prop := fixedPowersUptoRow.holds Tryd.pinned (OpenSpec.upto fixedPowersSpec)

/-- 'heraldlaw02.FixedRises', WHERE WHAT IT READS IS OF BULK AT MOST 1048576: true; the input reads as it did. -/
def fixedRisesUptoRow : OpenClaim := { program := "ytohimhojieeloaadoor", sum := "304a6781627e5160968f8368d5573a2ef43dfb5d9f8b303246253537b77fdfdc", func := "herald/heraldlaw02.FixedRises", spec := "fixedRises", named := ["herald/fixed.bend"], apart := false, laid := [("herald/fixed.bend", laid_herald_fixed_bend)], narrowed := true }
def FixedRisesUptoSaid : Prop := fixedRisesUptoRow.holds Tryd.pinned (OpenSpec.upto fixedRisesSpec)

end Rows
end Go.Proofs.YtohimhojieeloaaDoor
