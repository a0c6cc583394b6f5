/-
  NARROWER THAN 'FOR EVERY INPUT', by the rows' own cells (each row's printed sentence says how): SingleOrder: laid · SingleQuantises: laid · SingleScales: laid · SingleKeeps: laid · SingleMemory: laid · SingleDivides: laid.
  DERIVED. THE GIVEN ROWS OF THIS SEAT. 6 by the template 'for every input the law returns true; each argument reads behind the call as it read before'; 0 by the template 'total and deterministic' (their statements: YtmkaafnoanidpaaDoorTotals.lean).
  GIVEN WITH THE SEED: the statements are not yours to turn. If you find one false, say at which input.
  Laid BY PROGRAM, IN A SANDBOX (cutbox-rows.mjs): the forced cells as the released guide's own fill.sh prints them over the translation 46d0fe850099b048… (all of the seat's roots in one cut). By AI agents, Wed Nov 11 2026. No macro, syntax, notation, axiom, sorry.
-/
import Derived.Test.YtmkaafnoanidpaaDoorChecked
import GoSem.Claim
import GoSem.ClaimJoined
import GoSem.ClaimMapViews
import Derived.JoinedTies
import Derived.KernelRfl
namespace Go.Proofs.YtmkaafnoanidpaaDoor
/- THE CELL 'sum', in the pinned program and in every row, IS THE sha256 OF THE DUMP (.gsa) THAT YtmkaafnoanidpaaDoorProg.lean LOADS. Nothing in Lean hashes anything: it is a label: what it is worth is what the hold of that sum in a sandbox is worth. -/
noncomputable def Tryd.pinned : Pinned := { name := "ytmkaafnoanidpaadoor", sum := "46d0fe850099b048187b79ad5448fedb84e1658ba12766a62d315130c85ecd6f", checked := Tryd.checked }
namespace Rows
def none {H : Type} : Left H := { results := [], args := [] }

/- WHAT THE LISTED PACKAGE-LEVEL VARIABLES READ AS WHEN THE CALL BEGINS. Each datum BY PROGRAM (the guide's laid-datum.mjs) off the statement by which the dump's own 'gosem.cut.vars' lays the variable. In a bare row this is a premise. The card (YtmkaafnoanidpaaDoorCards.lean) ties it to the program's text. -/
def laid_herald_single_singles {H : Type} : DataW H := .agg [.lit (.int .i64 8), .lit (.int .i64 23)]

/-- 'heraldlaw03.SingleOrder': WHATEVER THE INPUT: true; the input reads as it did. -/
def singleOrderSpec : ChangeSpec := { name := "singleOrder", fn := fun _ => fun
  | [d1, d2, d3] => { results := [.lit (.bool true)], args := [d1, d2, d3] }
  | _ => none }
def singleOrderRow : OpenClaim := { program := "ytmkaafnoanidpaadoor", sum := "46d0fe850099b048187b79ad5448fedb84e1658ba12766a62d315130c85ecd6f", func := "herald/heraldlaw03.SingleOrder", spec := "singleOrder", inPlace := ["math.Float32frombits", "math.Float32bits"], named := ["herald/single.singles"], apart := false, laid := [("herald/single.singles", laid_herald_single_singles)] }
def SingleOrderSaid : Prop := singleOrderRow.holds Tryd.pinned (OpenSpec.ofChange singleOrderSpec)

/-- ITS FALSE NEIGHBOUR: 'it returns false'. Refute it at one input. -/
def singleOrderWrong : ChangeSpec := { name := "singleOrder", fn := fun _ => fun
  | [d1, d2, d3] => { results := [.lit (.bool false)], args := [d1, d2, d3] }
  | _ => none }
def SingleOrderWrongFalsely : Prop := singleOrderRow.holds Tryd.pinned (OpenSpec.ofChange singleOrderWrong)

/-- 'heraldlaw03.SingleQuantises': WHATEVER THE INPUT: true; the input reads as it did. -/
def singleQuantisesSpec : ChangeSpec := { name := "singleQuantises", fn := fun _ => fun
  | [d] => { results := [.lit (.bool true)], args := [d] }
  | _ => none }
def singleQuantisesRow : OpenClaim := { program := "ytmkaafnoanidpaadoor", sum := "46d0fe850099b048187b79ad5448fedb84e1658ba12766a62d315130c85ecd6f", func := "herald/heraldlaw03.SingleQuantises", spec := "singleQuantises", inPlace := ["math.Float32frombits", "math.Float64bits", "math.Float64frombits", "math.RoundToEven", "math.Float32bits"], named := ["herald/single.singles"], apart := false, laid := [("herald/single.singles", laid_herald_single_singles)] }
def SingleQuantisesSaid : Prop := singleQuantisesRow.holds Tryd.pinned (OpenSpec.ofChange singleQuantisesSpec)

/-- ITS FALSE NEIGHBOUR: 'it returns false'. Refute it at one input. -/
def singleQuantisesWrong : ChangeSpec := { name := "singleQuantises", fn := fun _ => fun
  | [d] => { results := [.lit (.bool false)], args := [d] }
  | _ => none }
def SingleQuantisesWrongFalsely : Prop := singleQuantisesRow.holds Tryd.pinned (OpenSpec.ofChange singleQuantisesWrong)

/-- 'heraldlaw03.SingleScales': WHATEVER THE INPUT: true; the input reads as it did. -/
def singleScalesSpec : ChangeSpec := { name := "singleScales", fn := fun _ => fun
  | [d1, d2] => { results := [.lit (.bool true)], args := [d1, d2] }
  | _ => none }
def singleScalesRow : OpenClaim := { program := "ytmkaafnoanidpaadoor", sum := "46d0fe850099b048187b79ad5448fedb84e1658ba12766a62d315130c85ecd6f", func := "herald/heraldlaw03.SingleScales", spec := "singleScales", inPlace := ["math.Float32frombits", "math.Float32bits"], named := ["herald/single.singles"], apart := false, laid := [("herald/single.singles", laid_herald_single_singles)] }
def SingleScalesSaid : Prop := singleScalesRow.holds Tryd.pinned (OpenSpec.ofChange singleScalesSpec)

/-- ITS FALSE NEIGHBOUR: 'it returns false'. Refute it at one input. -/
def singleScalesWrong : ChangeSpec := { name := "singleScales", fn := fun _ => fun
  | [d1, d2] => { results := [.lit (.bool false)], args := [d1, d2] }
  | _ => none }
def SingleScalesWrongFalsely : Prop := singleScalesRow.holds Tryd.pinned (OpenSpec.ofChange singleScalesWrong)

/-- 'heraldlaw03.SingleKeeps': WHATEVER THE INPUT: true; the input reads as it did. -/
def singleKeepsSpec : ChangeSpec := { name := "singleKeeps", fn := fun _ => fun
  | [d1, d2] => { results := [.lit (.bool true)], args := [d1, d2] }
  | _ => none }
def singleKeepsRow : OpenClaim := { program := "ytmkaafnoanidpaadoor", sum := "46d0fe850099b048187b79ad5448fedb84e1658ba12766a62d315130c85ecd6f", func := "herald/heraldlaw03.SingleKeeps", spec := "singleKeeps", inPlace := ["math.Float32frombits", "math.Float32bits", "math.Float64bits", "math.Float64frombits", "math.RoundToEven"], named := ["herald/single.singles"], apart := false, laid := [("herald/single.singles", laid_herald_single_singles)] }
def SingleKeepsSaid : Prop := singleKeepsRow.holds Tryd.pinned (OpenSpec.ofChange singleKeepsSpec)

/-- ITS FALSE NEIGHBOUR: 'it returns false'. Refute it at one input. -/
def singleKeepsWrong : ChangeSpec := { name := "singleKeeps", fn := fun _ => fun
  | [d1, d2] => { results := [.lit (.bool false)], args := [d1, d2] }
  | _ => none }
def SingleKeepsWrongFalsely : Prop := singleKeepsRow.holds Tryd.pinned (OpenSpec.ofChange singleKeepsWrong)

/-- 'heraldlaw03.SingleMemory': WHATEVER THE INPUT: true; the input reads as it did. -/
def singleMemorySpec : ChangeSpec := { name := "singleMemory", fn := fun _ => fun
  | [d] => { results := [.lit (.bool true)], args := [d] }
  | _ => none }
def singleMemoryRow : OpenClaim := { program := "ytmkaafnoanidpaadoor", sum := "46d0fe850099b048187b79ad5448fedb84e1658ba12766a62d315130c85ecd6f", func := "herald/heraldlaw03.SingleMemory", spec := "singleMemory", inPlace := ["math.Float32frombits", "math.Float64bits", "math.Float64frombits", "math.RoundToEven", "math.Float32bits"], named := ["herald/single.singles"], apart := false, laid := [("herald/single.singles", laid_herald_single_singles)] }
def SingleMemorySaid : Prop := singleMemoryRow.holds Tryd.pinned (OpenSpec.ofChange singleMemorySpec)

/-- ITS FALSE NEIGHBOUR: 'it returns false'. Refute it at one input. -/
def singleMemoryWrong : ChangeSpec := { name := "singleMemory", fn := fun _ => fun
  | [d] => { results := [.lit (.bool false)], args := [d] }
  | _ => none }
def SingleMemoryWrongFalsely : Prop := singleMemoryRow.holds Tryd.pinned (OpenSpec.ofChange singleMemoryWrong)

/-- 'heraldlaw03.SingleDivides': WHATEVER THE INPUT: true; the input reads as it did. -/
def singleDividesSpec : ChangeSpec := { name := "singleDivides", fn := fun _ => fun
  | [d1, d2] => { results := [.lit (.bool true)], args := [d1, d2] }
  | _ => none }
def singleDividesRow : OpenClaim := { program := "ytmkaafnoanidpaadoor", sum := "46d0fe850099b048187b79ad5448fedb84e1658ba12766a62d315130c85ecd6f", func := "herald/heraldlaw03.SingleDivides", spec := "singleDivides", inPlace := ["math.Float32frombits", "math.Float32bits", "math.sqrt"], named := ["herald/single.singles"], apart := false, laid := [("herald/single.singles", laid_herald_single_singles)] }
def SingleDividesSaid : Prop := singleDividesRow.holds Tryd.pinned (OpenSpec.ofChange singleDividesSpec)

/-- ITS FALSE NEIGHBOUR: 'it returns false'. Refute it at one input. -/
def singleDividesWrong : ChangeSpec := { name := "singleDivides", fn := fun _ => fun
  | [d1, d2] => { results := [.lit (.bool false)], args := [d1, d2] }
  | _ => none }
def SingleDividesWrongFalsely : Prop := singleDividesRow.holds Tryd.pinned (OpenSpec.ofChange singleDividesWrong)

/- THE SECOND FORM. 'bulk': how many values and letters a reading holds, each counted each time it is reached (what is shared counts as often as it is met; a slice's spare places count too). A statement '..UptoSaid' is the law's where the arguments, and the package variables that the reading takes, are together of bulk at most 1048576: NARROWER than '..Said'. Prove '..Said' where nothing that the law and all that it calls make is longer than what came in: it says more and counts as full. Else prove '..UptoSaid'. A law counts once. -/
mutual
def uptoBulk {H : Type} : DataW H → Nat
  | .lit (.string bytes) => bytes.length + 1
  | .lit _ => 1
  | .nil => 1
  | .ptr d => uptoBulk d + 1
  | .slice elems spare => uptoBulkAll elems + uptoBulkAll spare + 1
  | .agg parts => uptoBulkAll parts + 1
  | .iface _ d => uptoBulk d + 1
  | .map entries => uptoBulkEntries entries + 1
  | .held _ => 1
def uptoBulkAll {H : Type} : List (DataW H) → Nat
  | [] => 0
  | d :: r => uptoBulk d + uptoBulkAll r
def uptoBulkEntries {H : Type} : List (Lit × DataW H) → Nat
  | [] => 0
  | x :: r => uptoBulkEntry x + uptoBulkEntries r
def uptoBulkEntry {H : Type} : Lit × DataW H → Nat
  | (.string bytes, d) => bytes.length + uptoBulk d + 1
  | (_, d) => uptoBulk d + 1
 end
def uptoSmall : (H : Type) → List (DataW H) → Bool := fun _ ds => decide (uptoBulkAll ds ≤ 1048576)
def OpenSpec.upto (s : _root_.Go.ChangeSpec) : _root_.Go.OpenSpec := { _root_.Go.OpenSpec.ofChange s with cond := some uptoSmall }

/-- 'heraldlaw03.SingleOrder', WHERE WHAT IT READS IS OF BULK AT MOST 1048576: true; the input reads as it did. -/
def singleOrderUptoRow : OpenClaim := { program := "ytmkaafnoanidpaadoor", sum := "46d0fe850099b048187b79ad5448fedb84e1658ba12766a62d315130c85ecd6f", func := "herald/heraldlaw03.SingleOrder", spec := "singleOrder", inPlace := ["math.Float32frombits", "math.Float32bits"], named := ["herald/single.singles"], apart := false, laid := [("herald/single.singles", laid_herald_single_singles)], narrowed := true }
def SingleOrderUptoSaid : Prop := singleOrderUptoRow.holds Tryd.pinned (OpenSpec.upto singleOrderSpec)

/-- 'heraldlaw03.SingleQuantises', WHERE WHAT IT READS IS OF BULK AT MOST 1048576: true; the input reads as it did. -/
def singleQuantisesUptoRow : OpenClaim := { program := "ytmkaafnoanidpaadoor", sum := "46d0fe850099b048187b79ad5448fedb84e1658ba12766a62d315130c85ecd6f", func := "herald/heraldlaw03.SingleQuantises", spec := "singleQuantises", inPlace := ["math.Float32frombits", "math.Float64bits", "math.Float64frombits", "math.RoundToEven", "math.Float32bits"], named := ["herald/single.singles"], apart := false, laid := [("herald/single.singles", laid_herald_single_singles)], narrowed := true }
def SingleQuantisesUptoSaid : Prop := singleQuantisesUptoRow.holds Tryd.pinned (OpenSpec.upto singleQuantisesSpec)

/-- 'heraldlaw03.SingleScales', WHERE WHAT IT READS IS OF BULK AT MOST 1048576: true; the input reads as it did. -/
def singleScalesUptoRow : OpenClaim := { program := "ytmkaafnoanidpaadoor", sum := "46d0fe850099b048187b79ad5448fedb84e1658ba12766a62d315130c85ecd6f", func := "herald/heraldlaw03.SingleScales", spec := "singleScales", inPlace := ["math.Float32frombits", "math.Float32bits"], named := ["herald/single.singles"], apart := false, laid := [("herald/single.singles", laid_herald_single_singles)], narrowed := true }
def SingleScalesUptoSaid : Prop := singleScalesUptoRow.holds Tryd.pinned (OpenSpec.upto singleScalesSpec)

/-- 'heraldlaw03.SingleKeeps', WHERE WHAT IT READS IS OF BULK AT MOST 1048576: true; the input reads as it did. -/
def singleKeepsUptoRow : OpenClaim := { program := "ytmkaafnoanidpaadoor", sum := "46d0fe850099b048187b79ad5448fedb84e1658ba12766a62d315130c85ecd6f", func := "herald/heraldlaw03.SingleKeeps", spec := "singleKeeps", inPlace := ["math.Float32frombits", "math.Float32bits", "math.Float64bits", "math.Float64frombits", "math.RoundToEven"], named := ["herald/single.singles"], apart := false, laid := [("herald/single.singles", laid_herald_single_singles)], narrowed := true }
def SingleKeepsUptoSaid : Prop := singleKeepsUptoRow.holds Tryd.pinned (OpenSpec.upto singleKeepsSpec)

/-- 'heraldlaw03.SingleMemory', WHERE WHAT IT READS IS OF BULK AT MOST 1048576: true; the input reads as it did. -/
def singleMemoryUptoRow : OpenClaim := { program := "ytmkaafnoanidpaadoor", sum := "46d0fe850099b048187b79ad5448fedb84e1658ba12766a62d315130c85ecd6f", func := "herald/heraldlaw03.SingleMemory", spec := "singleMemory", inPlace := ["math.Float32frombits", "math.Float64bits", "math.Float64frombits", "math.RoundToEven", "math.Float32bits"], named := ["herald/single.singles"], apart := false, laid := [("herald/single.singles", laid_herald_single_singles)], narrowed := true }
def SingleMemoryUptoSaid : Prop := singleMemoryUptoRow.holds Tryd.pinned (OpenSpec.upto singleMemorySpec)

/-- 'heraldlaw03.SingleDivides', WHERE WHAT IT READS IS OF BULK AT MOST 1048576: true; the input reads as it did. -/
def singleDividesUptoRow : OpenClaim := { program := "ytmkaafnoanidpaadoor", sum := "46d0fe850099b048187b79ad5448fedb84e1658ba12766a62d315130c85ecd6f", func := "herald/heraldlaw03.SingleDivides", spec := "singleDivides", inPlace := ["math.Float32frombits", "math.Float32bits", "math.sqrt"], named := ["herald/single.singles"], apart := false, laid := [("herald/single.singles", laid_herald_single_singles)], narrowed := true }
def SingleDividesUptoSaid : Prop := singleDividesUptoRow.holds Tryd.pinned (OpenSpec.upto singleDividesSpec)

end Rows
end Go.Proofs.YtmkaafnoanidpaaDoor
