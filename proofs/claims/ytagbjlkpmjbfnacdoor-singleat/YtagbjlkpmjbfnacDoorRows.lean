/-
  NARROWER THAN 'FOR EVERY INPUT', by the rows' own cells (each row's printed sentence says how): SingleFormats: laid · SingleHalves: laid · SingleAt: laid.
  DERIVED. THE GIVEN ROWS OF THIS SEAT. 3 by the template 'for every input the law returns true; each argument reads behind the call as it read before'; 0 by the template 'total and deterministic' (their statements: YtagbjlkpmjbfnacDoorTotals.lean).
  GIVEN WITH THE SEED: the statements are not yours to turn. If you find one false, say at which input.
  Laid BY PROGRAM, IN A SANDBOX (cutbox-rows.mjs): the forced cells as the released guide's own fill.sh prints them over the translation a12aec57b479ad00… (all of the seat's roots in one cut). By AI agents, Wed Nov 11 2026. No macro, syntax, notation, axiom, sorry.
-/
import Derived.Test.YtagbjlkpmjbfnacDoorChecked
import GoSem.Claim
import GoSem.ClaimJoined
import GoSem.ClaimMapViews
import Derived.JoinedTies
import Derived.KernelRfl
namespace Go.Proofs.YtagbjlkpmjbfnacDoor
/- THE CELL 'sum', in the pinned program and in every row, IS THE sha256 OF THE DUMP (.gsa) THAT YtagbjlkpmjbfnacDoorProg.lean LOADS. Nothing in Lean hashes anything: it is a label: what it is worth is what the hold of that sum in a sandbox is worth. -/
noncomputable def Tryd.pinned : Pinned := { name := "ytagbjlkpmjbfnacdoor", sum := "a12aec57b479ad00f02b0b1743b1e93d2b7661c5e41f7fb204b66622d6f05aca", checked := Tryd.checked }
namespace Rows
def none {H : Type} : Left H := { results := [], args := [] }

/- WHAT THE LISTED PACKAGE-LEVEL VARIABLES READ AS WHEN THE CALL BEGINS. Each datum BY PROGRAM (the guide's laid-datum.mjs) off the statement by which the dump's own 'gosem.cut.vars' lays the variable. In a bare row this is a premise. The card (YtagbjlkpmjbfnacDoorCards.lean) ties it to the program's text. -/
def laid_math_bits_deBruijn32tab {H : Type} : DataW H := .agg [.lit (.int .u8 0), .lit (.int .u8 1), .lit (.int .u8 28), .lit (.int .u8 2), .lit (.int .u8 29), .lit (.int .u8 14), .lit (.int .u8 24), .lit (.int .u8 3), .lit (.int .u8 30), .lit (.int .u8 22), .lit (.int .u8 20), .lit (.int .u8 15), .lit (.int .u8 25), .lit (.int .u8 17), .lit (.int .u8 4), .lit (.int .u8 8), .lit (.int .u8 31), .lit (.int .u8 27), .lit (.int .u8 13), .lit (.int .u8 23), .lit (.int .u8 21), .lit (.int .u8 19), .lit (.int .u8 16), .lit (.int .u8 7), .lit (.int .u8 26), .lit (.int .u8 12), .lit (.int .u8 18), .lit (.int .u8 6), .lit (.int .u8 11), .lit (.int .u8 5), .lit (.int .u8 10), .lit (.int .u8 9)]
def laid_herald_single_singles {H : Type} : DataW H := .agg [.lit (.int .i64 8), .lit (.int .i64 23)]
def laid_herald_single_halves {H : Type} : DataW H := .agg [.lit (.int .i64 5), .lit (.int .i64 10)]
def laid_herald_single_brains {H : Type} : DataW H := .agg [.lit (.int .i64 8), .lit (.int .i64 7)]

/-- 'heraldlaw03.SingleFormats': WHATEVER THE INPUT: true; the input reads as it did. -/
def singleFormatsSpec : ChangeSpec := { name := "singleFormats", fn := fun _ => fun
  | [d1, d2] => { results := [.lit (.bool true)], args := [d1, d2] }
  | _ => none }
def singleFormatsRow : OpenClaim := { program := "ytagbjlkpmjbfnacdoor", sum := "a12aec57b479ad00f02b0b1743b1e93d2b7661c5e41f7fb204b66622d6f05aca", func := "herald/heraldlaw03.SingleFormats", spec := "singleFormats", inPlace := ["math.Float32frombits", "math.Float32bits"], named := ["herald/single.singles", "herald/single.halves", "math/bits.deBruijn32tab", "herald/single.brains"], apart := false, laid := [("math/bits.deBruijn32tab", laid_math_bits_deBruijn32tab), ("herald/single.singles", laid_herald_single_singles), ("herald/single.halves", laid_herald_single_halves), ("herald/single.brains", laid_herald_single_brains)] }
def SingleFormatsSaid : Prop := singleFormatsRow.holds Tryd.pinned (OpenSpec.ofChange singleFormatsSpec)

/-- ITS FALSE NEIGHBOUR: 'it returns false'. Refute it at one input. -/
def singleFormatsWrong : ChangeSpec := { name := "singleFormats", fn := fun _ => fun
  | [d1, d2] => { results := [.lit (.bool false)], args := [d1, d2] }
  | _ => none }
def SingleFormatsWrongFalsely : Prop := singleFormatsRow.holds Tryd.pinned (OpenSpec.ofChange singleFormatsWrong)

/-- 'heraldlaw03.SingleHalves': WHATEVER THE INPUT: true; the input reads as it did. -/
def singleHalvesSpec : ChangeSpec := { name := "singleHalves", fn := fun _ => fun
  | [d] => { results := [.lit (.bool true)], args := [d] }
  | _ => none }
def singleHalvesRow : OpenClaim := { program := "ytagbjlkpmjbfnacdoor", sum := "a12aec57b479ad00f02b0b1743b1e93d2b7661c5e41f7fb204b66622d6f05aca", func := "herald/heraldlaw03.SingleHalves", spec := "singleHalves", inPlace := ["math.Float32frombits", "math.Float32bits"], named := ["herald/single.singles", "herald/single.halves", "math/bits.deBruijn32tab", "herald/single.brains"], apart := false, laid := [("math/bits.deBruijn32tab", laid_math_bits_deBruijn32tab), ("herald/single.singles", laid_herald_single_singles), ("herald/single.halves", laid_herald_single_halves), ("herald/single.brains", laid_herald_single_brains)] }
def SingleHalvesSaid : Prop := singleHalvesRow.holds Tryd.pinned (OpenSpec.ofChange singleHalvesSpec)

/-- ITS FALSE NEIGHBOUR: 'it returns false'. Refute it at one input. -/
def singleHalvesWrong : ChangeSpec := { name := "singleHalves", fn := fun _ => fun
  | [d] => { results := [.lit (.bool false)], args := [d] }
  | _ => none }
def SingleHalvesWrongFalsely : Prop := singleHalvesRow.holds Tryd.pinned (OpenSpec.ofChange singleHalvesWrong)

/-- 'heraldlaw03.SingleAt': WHATEVER THE INPUT: true; the input reads as it did. -/
def singleAtSpec : ChangeSpec := { name := "singleAt", fn := fun _ => fun
  | [d1, d2] => { results := [.lit (.bool true)], args := [d1, d2] }
  | _ => none }
def singleAtRow : OpenClaim := { program := "ytagbjlkpmjbfnacdoor", sum := "a12aec57b479ad00f02b0b1743b1e93d2b7661c5e41f7fb204b66622d6f05aca", func := "herald/heraldlaw03.SingleAt", spec := "singleAt", inPlace := ["math.Float32frombits", "math.Float64bits", "math.Float64frombits", "math.RoundToEven", "math.Float32bits"], named := ["herald/single.singles"], apart := false, laid := [("herald/single.singles", laid_herald_single_singles)] }
def SingleAtSaid : Prop := singleAtRow.holds Tryd.pinned (OpenSpec.ofChange singleAtSpec)

/-- ITS FALSE NEIGHBOUR: 'it returns false'. Refute it at one input. -/
def singleAtWrong : ChangeSpec := { name := "singleAt", fn := fun _ => fun
  | [d1, d2] => { results := [.lit (.bool false)], args := [d1, d2] }
  | _ => none }
def SingleAtWrongFalsely : Prop := singleAtRow.holds Tryd.pinned (OpenSpec.ofChange singleAtWrong)

/- THE SECOND FORM. 'bulk': how many values and letters a reading holds, each counted each time it is reached (what is shared counts as often as it is met; a slice's spare places count too). A statement '..UptoSaid' is the law's where the arguments, and the package variables that the reading takes, are together of bulk at most 1048576: NARROWER than '..Said'. Prove '..Said' where nothing that the law and all that it calls make is longer than what came in: it says more and counts as full. Else prove '..UptoSaid'. A law counts once. -/
mutual
def uptoBulk {H : Type} : DataW H → Nat
  | .lit (.string bytes) => bytes.length + 1
  | .lit _ => 1
  | .nil => 1
  | .ptr d => uptoBulk d + 1
  | .slice elems spare => uptoBulkAll elems + uptoBulkAll spare + 1
  | .agg parts => uptoBulkAll parts + 1
  | .iface _ d => uptoBulk d + 1
  | .map entries => uptoBulkEntries entries + 1
  | .held _ => 1
def uptoBulkAll {H : Type} : List (DataW H) → Nat
  | [] => 0
  | d :: r => uptoBulk d + uptoBulkAll r
def uptoBulkEntries {H : Type} : List (Lit × DataW H) → Nat
  | [] => 0
  | x :: r => uptoBulkEntry x + uptoBulkEntries r
def uptoBulkEntry {H : Type} : Lit × DataW H → Nat
  | (.string bytes, d) => bytes.length + uptoBulk d + 1
  | (_, d) => uptoBulk d + 1
 end
def uptoSmall : (H : Type) → List (DataW H) → Bool := fun _ ds => decide (uptoBulkAll ds ≤ 1048576)
def OpenSpec.upto (s : _root_.Go.ChangeSpec) : _root_.Go.OpenSpec := { _root_.Go.OpenSpec.ofChange s with cond := some uptoSmall }

/-- 'heraldlaw03.SingleFormats', WHERE WHAT IT READS IS OF BULK AT MOST 1048576: true; the input reads as it did. -/
def singleFormatsUptoRow : OpenClaim := { program := "ytagbjlkpmjbfnacdoor", sum := "a12aec57b479ad00f02b0b1743b1e93d2b7661c5e41f7fb204b66622d6f05aca", func := "herald/heraldlaw03.SingleFormats", spec := "singleFormats", inPlace := ["math.Float32frombits", "math.Float32bits"], named := ["herald/single.singles", "herald/single.halves", "math/bits.deBruijn32tab", "herald/single.brains"], apart := false, laid := [("math/bits.deBruijn32tab", laid_math_bits_deBruijn32tab), ("herald/single.singles", laid_herald_single_singles), ("herald/single.halves", laid_herald_single_halves), ("herald/single.brains", laid_herald_single_brains)], narrowed := true }
def SingleFormatsUptoSaid : Prop := singleFormatsUptoRow.holds Tryd.pinned (OpenSpec.upto singleFormatsSpec)

/-- 'heraldlaw03.SingleHalves', WHERE WHAT IT READS IS OF BULK AT MOST 1048576: true; the input reads as it did. -/
def singleHalvesUptoRow : OpenClaim := { program := "ytagbjlkpmjbfnacdoor", sum := "a12aec57b479ad00f02b0b1743b1e93d2b7661c5e41f7fb204b66622d6f05aca", func := "herald/heraldlaw03.SingleHalves", spec := "singleHalves", inPlace := ["math.Float32frombits", "math.Float32bits"], named := ["herald/single.singles", "herald/single.halves", "math/bits.deBruijn32tab", "herald/single.brains"], apart := false, laid := [("math/bits.deBruijn32tab", laid_math_bits_deBruijn32tab), ("herald/single.singles", laid_herald_single_singles), ("herald/single.halves", laid_herald_single_halves), ("herald/single.brains", laid_herald_single_brains)], narrowed := true }
def SingleHalvesUptoSaid : Prop := singleHalvesUptoRow.holds Tryd.pinned (OpenSpec.upto singleHalvesSpec)

/-- 'heraldlaw03.SingleAt', WHERE WHAT IT READS IS OF BULK AT MOST 1048576: true; the input reads as it did. -/
def singleAtUptoRow : OpenClaim := { program := "ytagbjlkpmjbfnacdoor", sum := "a12aec57b479ad00f02b0b1743b1e93d2b7661c5e41f7fb204b66622d6f05aca", func := "herald/heraldlaw03.SingleAt", spec := "singleAt", inPlace := ["math.Float32frombits", "math.Float64bits", "math.Float64frombits", "math.RoundToEven", "math.Float32bits"], named := ["herald/single.singles"], apart := false, laid := [("herald/single.singles", laid_herald_single_singles)], narrowed := true }
def SingleAtUptoSaid : Prop := singleAtUptoRow.holds Tryd.pinned (OpenSpec.upto singleAtSpec)

end Rows
end Go.Proofs.YtagbjlkpmjbfnacDoor
