/-
  NARROWER THAN 'FOR EVERY INPUT', by the rows' own cells (each row's printed sentence says how): SoftWeighs: laid · SoftMean: laid · SoftMeans: laid · SoftShifts: laid · SoftBetween: laid · SoftTurns: laid.
  DERIVED. THE GIVEN ROWS OF THIS SEAT. 6 by the template 'for every input the law returns true; each argument reads behind the call as it read before'; 0 by the template 'total and deterministic' (their statements: YtkolpdfakhlkeaaDoorTotals.lean).
  GIVEN WITH THE SEED: the statements are not yours to turn. If you find one false, say at which input.
  Laid BY PROGRAM, IN A SANDBOX (cutbox-rows.mjs): the forced cells as the released guide's own fill.sh prints them over the translation 9ecefcd9d6058625… (all of the seat's roots in one cut). By AI agents, Wed Nov 11 2026. No macro, syntax, notation, axiom, sorry.
-/
import Derived.Test.YtkolpdfakhlkeaaDoorChecked
import GoSem.Claim
import GoSem.ClaimJoined
import GoSem.ClaimMapViews
import Derived.JoinedTies
import Derived.KernelRfl
namespace Go.Proofs.YtkolpdfakhlkeaaDoor
/- THE CELL 'sum', in the pinned program and in every row, IS THE sha256 OF THE DUMP (.gsa) THAT YtkolpdfakhlkeaaDoorProg.lean LOADS. Nothing in Lean hashes anything: it is a label: what it is worth is what the hold of that sum in a sandbox is worth. -/
noncomputable def Tryd.pinned : Pinned := { name := "ytkolpdfakhlkeaadoor", sum := "9ecefcd9d6058625cd7f848db0c2f6601427bde2943c0bbb2aff4573d8b73e4a", checked := Tryd.checked }
namespace Rows
def none {H : Type} : Left H := { results := [], args := [] }

/- WHAT THE LISTED PACKAGE-LEVEL VARIABLES READ AS WHEN THE CALL BEGINS. Each datum BY PROGRAM (the guide's laid-datum.mjs) off the statement by which the dump's own 'gosem.cut.vars' lays the variable. In a bare row this is a premise. The card (YtkolpdfakhlkeaaDoorCards.lean) ties it to the program's text. -/
def laid_herald_fixed_bend {H : Type} : DataW H := .agg [.lit (.int .i64 84941200), .lit (.int .i64 241400000), .lit (.int .i64 747400624)]

/-- 'heraldlaw11.SoftWeighs': WHATEVER THE INPUT: true; the input reads as it did. -/
def softWeighsSpec : ChangeSpec := { name := "softWeighs", fn := fun _ => fun
  | [d] => { results := [.lit (.bool true)], args := [d] }
  | _ => none }
def softWeighsRow : OpenClaim := { program := "ytkolpdfakhlkeaadoor", sum := "9ecefcd9d6058625cd7f848db0c2f6601427bde2943c0bbb2aff4573d8b73e4a", func := "herald/heraldlaw11.SoftWeighs", spec := "softWeighs", inPlace := ["math/bits.Add64"], named := ["herald/fixed.bend"], apart := false, laid := [("herald/fixed.bend", laid_herald_fixed_bend)] }
def SoftWeighsSaid : Prop := softWeighsRow.holds Tryd.pinned (OpenSpec.ofChange softWeighsSpec)

/-- ITS FALSE NEIGHBOUR: 'it returns false'. Refute it at one input. -/
def softWeighsWrong : ChangeSpec := { name := "softWeighs", fn := fun _ => fun
  | [d] => { results := [.lit (.bool false)], args := [d] }
  | _ => none }
def SoftWeighsWrongFalsely : Prop := softWeighsRow.holds Tryd.pinned (OpenSpec.ofChange softWeighsWrong)

/-- 'heraldlaw11.SoftMean': WHATEVER THE INPUT: true; the input reads as it did. -/
def softMeanSpec : ChangeSpec := { name := "softMean", fn := fun _ => fun
  | [d1, d2] => { results := [.lit (.bool true)], args := [d1, d2] }
  | _ => none }
def softMeanRow : OpenClaim := { program := "ytkolpdfakhlkeaadoor", sum := "9ecefcd9d6058625cd7f848db0c2f6601427bde2943c0bbb2aff4573d8b73e4a", func := "herald/heraldlaw11.SoftMean", spec := "softMean", inPlace := ["math/bits.Add64"], named := ["herald/fixed.bend"], apart := false, laid := [("herald/fixed.bend", laid_herald_fixed_bend)] }
def SoftMeanSaid : Prop := softMeanRow.holds Tryd.pinned (OpenSpec.ofChange softMeanSpec)

/-- ITS FALSE NEIGHBOUR: 'it returns false'. Refute it at one input. -/
def softMeanWrong : ChangeSpec := { name := "softMean", fn := fun _ => fun
  | [d1, d2] => { results := [.lit (.bool false)], args := [d1, d2] }
  | _ => none }
def SoftMeanWrongFalsely : Prop := softMeanRow.holds Tryd.pinned (OpenSpec.ofChange softMeanWrong)

/-- 'heraldlaw11.SoftMeans': WHATEVER THE INPUT: true; the input reads as it did. -/
def softMeansSpec : ChangeSpec := { name := "softMeans", fn := fun _ => fun
  | [d1, d2] => { results := [.lit (.bool true)], args := [d1, d2] }
  | _ => none }
def softMeansRow : OpenClaim := { program := "ytkolpdfakhlkeaadoor", sum := "9ecefcd9d6058625cd7f848db0c2f6601427bde2943c0bbb2aff4573d8b73e4a", func := "herald/heraldlaw11.SoftMeans", spec := "softMeans", inPlace := ["math/bits.Add64"], named := ["herald/fixed.bend"], apart := false, laid := [("herald/fixed.bend", laid_herald_fixed_bend)] }
def SoftMeansSaid : Prop := softMeansRow.holds Tryd.pinned (OpenSpec.ofChange softMeansSpec)

/-- ITS FALSE NEIGHBOUR: 'it returns false'. Refute it at one input. -/
def softMeansWrong : ChangeSpec := { name := "softMeans", fn := fun _ => fun
  | [d1, d2] => { results := [.lit (.bool false)], args := [d1, d2] }
  | _ => none }
def SoftMeansWrongFalsely : Prop := softMeansRow.holds Tryd.pinned (OpenSpec.ofChange softMeansWrong)

/-- 'heraldlaw11.SoftShifts': WHATEVER THE INPUT: true; the input reads as it did. -/
def softShiftsSpec : ChangeSpec := { name := "softShifts", fn := fun _ => fun
  | [d1, d2] => { results := [.lit (.bool true)], args := [d1, d2] }
  | _ => none }
def softShiftsRow : OpenClaim := { program := "ytkolpdfakhlkeaadoor", sum := "9ecefcd9d6058625cd7f848db0c2f6601427bde2943c0bbb2aff4573d8b73e4a", func := "herald/heraldlaw11.SoftShifts", spec := "softShifts", inPlace := ["math/bits.Add64"], named := ["herald/fixed.bend"], apart := false, laid := [("herald/fixed.bend", laid_herald_fixed_bend)] }
def SoftShiftsSaid : Prop := softShiftsRow.holds Tryd.pinned (OpenSpec.ofChange softShiftsSpec)

/-- ITS FALSE NEIGHBOUR: 'it returns false'. Refute it at one input. -/
def softShiftsWrong : ChangeSpec := { name := "softShifts", fn := fun _ => fun
  | [d1, d2] => { results := [.lit (.bool false)], args := [d1, d2] }
  | _ => none }
def SoftShiftsWrongFalsely : Prop := softShiftsRow.holds Tryd.pinned (OpenSpec.ofChange softShiftsWrong)

/-- 'heraldlaw11.SoftBetween': WHATEVER THE INPUT: true; the input reads as it did. -/
def softBetweenSpec : ChangeSpec := { name := "softBetween", fn := fun _ => fun
  | [d1, d2] => { results := [.lit (.bool true)], args := [d1, d2] }
  | _ => none }
def softBetweenRow : OpenClaim := { program := "ytkolpdfakhlkeaadoor", sum := "9ecefcd9d6058625cd7f848db0c2f6601427bde2943c0bbb2aff4573d8b73e4a", func := "herald/heraldlaw11.SoftBetween", spec := "softBetween", inPlace := ["math/bits.Add64"], named := ["herald/fixed.bend"], apart := false, laid := [("herald/fixed.bend", laid_herald_fixed_bend)] }
def SoftBetweenSaid : Prop := softBetweenRow.holds Tryd.pinned (OpenSpec.ofChange softBetweenSpec)

/-- ITS FALSE NEIGHBOUR: 'it returns false'. Refute it at one input. -/
def softBetweenWrong : ChangeSpec := { name := "softBetween", fn := fun _ => fun
  | [d1, d2] => { results := [.lit (.bool false)], args := [d1, d2] }
  | _ => none }
def SoftBetweenWrongFalsely : Prop := softBetweenRow.holds Tryd.pinned (OpenSpec.ofChange softBetweenWrong)

/-- 'heraldlaw11.SoftTurns': WHATEVER THE INPUT: true; the input reads as it did. -/
def softTurnsSpec : ChangeSpec := { name := "softTurns", fn := fun _ => fun
  | [d1, d2, d3] => { results := [.lit (.bool true)], args := [d1, d2, d3] }
  | _ => none }
def softTurnsRow : OpenClaim := { program := "ytkolpdfakhlkeaadoor", sum := "9ecefcd9d6058625cd7f848db0c2f6601427bde2943c0bbb2aff4573d8b73e4a", func := "herald/heraldlaw11.SoftTurns", spec := "softTurns", inPlace := ["math/bits.Add64"], named := ["herald/fixed.bend"], apart := false, laid := [("herald/fixed.bend", laid_herald_fixed_bend)] }
def SoftTurnsSaid : Prop := softTurnsRow.holds Tryd.pinned (OpenSpec.ofChange softTurnsSpec)

/-- ITS FALSE NEIGHBOUR: 'it returns false'. Refute it at one input. -/
def softTurnsWrong : ChangeSpec := { name := "softTurns", fn := fun _ => fun
  | [d1, d2, d3] => { results := [.lit (.bool false)], args := [d1, d2, d3] }
  | _ => none }
def SoftTurnsWrongFalsely : Prop := softTurnsRow.holds Tryd.pinned (OpenSpec.ofChange softTurnsWrong)

/- THE SECOND FORM. 'bulk': how many values and letters a reading holds, each counted each time it is reached (what is shared counts as often as it is met; a slice's spare places count too). A statement '..UptoSaid' is the law's where the arguments, and the package variables that the reading takes, are together of bulk at most 1048576: NARROWER than '..Said'. Prove '..Said' where nothing that the law and all that it calls make is longer than what came in: it says more and counts as full. Else prove '..UptoSaid'. A law counts once. -/
mutual
def uptoBulk {H : Type} : DataW H → Nat
  | .lit (.string bytes) => bytes.length + 1
  | .lit _ => 1
  | .nil => 1
  | .ptr d => uptoBulk d + 1
  | .slice elems spare => uptoBulkAll elems + uptoBulkAll spare + 1
  | .agg parts => uptoBulkAll parts + 1
  | .iface _ d => uptoBulk d + 1
  | .map entries => uptoBulkEntries entries + 1
  | .held _ => 1
def uptoBulkAll {H : Type} : List (DataW H) → Nat
  | [] => 0
  | d :: r => uptoBulk d + uptoBulkAll r
def uptoBulkEntries {H : Type} : List (Lit × DataW H) → Nat
  | [] => 0
  | x :: r => uptoBulkEntry x + uptoBulkEntries r
def uptoBulkEntry {H : Type} : Lit × DataW H → Nat
  | (.string bytes, d) => bytes.length + uptoBulk d + 1
  | (_, d) => uptoBulk d + 1
 end
def uptoSmall : (H : Type) → List (DataW H) → Bool := fun _ ds => decide (uptoBulkAll ds ≤ 1048576)
def OpenSpec.upto (s : _root_.Go.ChangeSpec) : _root_.Go.OpenSpec := { _root_.Go.OpenSpec.ofChange s with cond := some uptoSmall }

/-- 'heraldlaw11.SoftWeighs', WHERE WHAT IT READS IS OF BULK AT MOST 1048576: true; the input reads as it did. -/
def softWeighsUptoRow : OpenClaim := { program := "ytkolpdfakhlkeaadoor", sum := "9ecefcd9d6058625cd7f848db0c2f6601427bde2943c0bbb2aff4573d8b73e4a", func := "herald/heraldlaw11.SoftWeighs", spec := "softWeighs", inPlace := ["math/bits.Add64"], named := ["herald/fixed.bend"], apart := false, laid := [("herald/fixed.bend", laid_herald_fixed_bend)], narrowed := true }
def SoftWeighsUptoSaid : Prop := softWeighsUptoRow.holds Tryd.pinned (OpenSpec.upto softWeighsSpec)

/-- 'heraldlaw11.SoftMean', WHERE WHAT IT READS IS OF BULK AT MOST 1048576: true; the input reads as it did. -/
def softMeanUptoRow : OpenClaim := { program := "ytkolpdfakhlkeaadoor", sum := "9ecefcd9d6058625cd7f848db0c2f6601427bde2943c0bbb2aff4573d8b73e4a", func := "herald/heraldlaw11.SoftMean", spec := "softMean", inPlace := ["math/bits.Add64"], named := ["herald/fixed.bend"], apart := false, laid := [("herald/fixed.bend", laid_herald_fixed_bend)], narrowed := true }
def SoftMeanUptoSaid : Prop := softMeanUptoRow.holds Tryd.pinned (OpenSpec.upto softMeanSpec)

/-- 'heraldlaw11.SoftMeans', WHERE WHAT IT READS IS OF BULK AT MOST 1048576: true; the input reads as it did. -/
def softMeansUptoRow : OpenClaim := { program := "ytkolpdfakhlkeaadoor", sum := "9ecefcd9d6058625cd7f848db0c2f6601427bde2943c0bbb2aff4573d8b73e4a", func := "herald/heraldlaw11.SoftMeans", spec := "softMeans", inPlace := ["math/bits.Add64"], named := ["herald/fixed.bend"], apart := false, laid := [("herald/fixed.bend", laid_herald_fixed_bend)], narrowed := true }
def SoftMeansUptoSaid : Prop := softMeansUptoRow.holds Tryd.pinned (OpenSpec.upto softMeansSpec)

/-- 'heraldlaw11.SoftShifts', WHERE WHAT IT READS IS OF BULK AT MOST 1048576: true; the input reads as it did. -/
def softShiftsUptoRow : OpenClaim := { program := "ytkolpdfakhlkeaadoor", sum := "9ecefcd9d6058625cd7f848db0c2f6601427bde2943c0bbb2aff4573d8b73e4a", func := "herald/heraldlaw11.SoftShifts", spec := "softShifts", inPlace := ["math/bits.Add64"], named := ["herald/fixed.bend"], apart := false, laid := [("herald/fixed.bend", laid_herald_fixed_bend)], narrowed := true }
def SoftShiftsUptoSaid : Prop := softShiftsUptoRow.holds Tryd.pinned (OpenSpec.upto softShiftsSpec)

/-- 'heraldlaw11.SoftBetween', WHERE WHAT IT READS IS OF BULK AT MOST 1048576: true; the input reads as it did. -/
def softBetweenUptoRow : OpenClaim := { program := "ytkolpdfakhlkeaadoor", sum := "9ecefcd9d6058625cd7f848db0c2f6601427bde2943c0bbb2aff4573d8b73e4a", func := "herald/heraldlaw11.SoftBetween", spec := "softBetween", inPlace := ["math/bits.Add64"], named := ["herald/fixed.bend"], apart := false, laid := [("herald/fixed.bend", laid_herald_fixed_bend)], narrowed := true }
def SoftBetweenUptoSaid : Prop := softBetweenUptoRow.holds Tryd.pinned (OpenSpec.upto softBetweenSpec)

/-- 'heraldlaw11.SoftTurns', WHERE WHAT IT READS IS OF BULK AT MOST 1048576: true; the input reads as it did. -/
def softTurnsUptoRow : OpenClaim := { program := "ytkolpdfakhlkeaadoor", sum := "9ecefcd9d6058625cd7f848db0c2f6601427bde2943c0bbb2aff4573d8b73e4a", func := "herald/heraldlaw11.SoftTurns", spec := "softTurns", inPlace := ["math/bits.Add64"], named := ["herald/fixed.bend"], apart := false, laid := [("herald/fixed.bend", laid_herald_fixed_bend)], narrowed := true }
def SoftTurnsUptoSaid : Prop := softTurnsUptoRow.holds Tryd.pinned (OpenSpec.upto softTurnsSpec)

end Rows
end Go.Proofs.YtkolpdfakhlkeaaDoor
