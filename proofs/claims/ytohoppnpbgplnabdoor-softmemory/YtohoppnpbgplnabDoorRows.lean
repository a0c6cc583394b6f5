/-
  NARROWER THAN 'FOR EVERY INPUT', by the rows' own cells (each row's printed sentence says how): SoftMemory: laid · SoftMasks: laid · SoftSames: laid.
  DERIVED. THE GIVEN ROWS OF THIS SEAT. 3 by the template 'for every input the law returns true; each argument reads behind the call as it read before'; 0 by the template 'total and deterministic' (their statements: YtohoppnpbgplnabDoorTotals.lean).
  GIVEN WITH THE SEED: the statements are not yours to turn. If you find one false, say at which input.
  Laid BY PROGRAM, IN A SANDBOX (cutbox-rows.mjs): the forced cells as the released guide's own fill.sh prints them over the translation c4c635118b6d8322… (all of the seat's roots in one cut). By AI agents, Wed Nov 11 2026. No macro, syntax, notation, axiom, sorry.
-/
import Derived.Test.YtohoppnpbgplnabDoorChecked
import GoSem.Claim
import GoSem.ClaimJoined
import GoSem.ClaimMapViews
import Derived.JoinedTies
import Derived.KernelRfl
namespace Go.Proofs.YtohoppnpbgplnabDoor
/- THE CELL 'sum', in the pinned program and in every row, IS THE sha256 OF THE DUMP (.gsa) THAT YtohoppnpbgplnabDoorProg.lean LOADS. Nothing in Lean hashes anything: it is a label: what it is worth is what the hold of that sum in a sandbox is worth. -/
noncomputable def Tryd.pinned : Pinned := { name := "ytohoppnpbgplnabdoor", sum := "c4c635118b6d832213286aa8fb4877c3144631bd9f63e55c5b126a6a49b7a751", checked := Tryd.checked }
namespace Rows
def none {H : Type} : Left H := { results := [], args := [] }

/- WHAT THE LISTED PACKAGE-LEVEL VARIABLES READ AS WHEN THE CALL BEGINS. Each datum BY PROGRAM (the guide's laid-datum.mjs) off the statement by which the dump's own 'gosem.cut.vars' lays the variable. In a bare row this is a premise. The card (YtohoppnpbgplnabDoorCards.lean) ties it to the program's text. -/
def laid_herald_fixed_bend {H : Type} : DataW H := .agg [.lit (.int .i64 84941200), .lit (.int .i64 241400000), .lit (.int .i64 747400624)]

/-- 'heraldlaw11.SoftMemory': WHATEVER THE INPUT: true; the input reads as it did. -/
def softMemorySpec : ChangeSpec := { name := "softMemory", fn := fun _ => fun
  | [d1, d2] => { results := [.lit (.bool true)], args := [d1, d2] }
  | _ => none }
def softMemoryRow : OpenClaim := { program := "ytohoppnpbgplnabdoor", sum := "c4c635118b6d832213286aa8fb4877c3144631bd9f63e55c5b126a6a49b7a751", func := "herald/heraldlaw11.SoftMemory", spec := "softMemory", inPlace := ["math/bits.Add64"], named := ["herald/fixed.bend"], apart := false, laid := [("herald/fixed.bend", laid_herald_fixed_bend)] }
def SoftMemorySaid : Prop := softMemoryRow.holds Tryd.pinned (OpenSpec.ofChange softMemorySpec)

/-- ITS FALSE NEIGHBOUR: 'it returns false'. Refute it at one input. -/
def softMemoryWrong : ChangeSpec := { name := "softMemory", fn := fun _ => fun
  | [d1, d2] => { results := [.lit (.bool false)], args := [d1, d2] }
  | _ => none }
def SoftMemoryWrongFalsely : Prop := softMemoryRow.holds Tryd.pinned (OpenSpec.ofChange softMemoryWrong)

/-- 'heraldlaw11.SoftMasks': WHATEVER THE INPUT: true; the input reads as it did. -/
def softMasksSpec : ChangeSpec := { name := "softMasks", fn := fun _ => fun
  | [d1, d2, d3] => { results := [.lit (.bool true)], args := [d1, d2, d3] }
  | _ => none }
def softMasksRow : OpenClaim := { program := "ytohoppnpbgplnabdoor", sum := "c4c635118b6d832213286aa8fb4877c3144631bd9f63e55c5b126a6a49b7a751", func := "herald/heraldlaw11.SoftMasks", spec := "softMasks", inPlace := ["math/bits.Add64"], named := ["herald/fixed.bend"], apart := false, laid := [("herald/fixed.bend", laid_herald_fixed_bend)] }
def SoftMasksSaid : Prop := softMasksRow.holds Tryd.pinned (OpenSpec.ofChange softMasksSpec)

/-- ITS FALSE NEIGHBOUR: 'it returns false'. Refute it at one input. -/
def softMasksWrong : ChangeSpec := { name := "softMasks", fn := fun _ => fun
  | [d1, d2, d3] => { results := [.lit (.bool false)], args := [d1, d2, d3] }
  | _ => none }
def SoftMasksWrongFalsely : Prop := softMasksRow.holds Tryd.pinned (OpenSpec.ofChange softMasksWrong)

/-- 'heraldlaw11.SoftSames': WHATEVER THE INPUT: true; the input reads as it did. -/
def softSamesSpec : ChangeSpec := { name := "softSames", fn := fun _ => fun
  | [d1, d2, d3] => { results := [.lit (.bool true)], args := [d1, d2, d3] }
  | _ => none }
def softSamesRow : OpenClaim := { program := "ytohoppnpbgplnabdoor", sum := "c4c635118b6d832213286aa8fb4877c3144631bd9f63e55c5b126a6a49b7a751", func := "herald/heraldlaw11.SoftSames", spec := "softSames", inPlace := ["math/bits.Add64"], named := ["herald/fixed.bend"], apart := false, laid := [("herald/fixed.bend", laid_herald_fixed_bend)] }
def SoftSamesSaid : Prop := softSamesRow.holds Tryd.pinned (OpenSpec.ofChange softSamesSpec)

/-- ITS FALSE NEIGHBOUR: 'it returns false'. Refute it at one input. -/
def softSamesWrong : ChangeSpec := { name := "softSames", fn := fun _ => fun
  | [d1, d2, d3] => { results := [.lit (.bool false)], args := [d1, d2, d3] }
  | _ => none }
def SoftSamesWrongFalsely : Prop := softSamesRow.holds Tryd.pinned (OpenSpec.ofChange softSamesWrong)

/- THE SECOND FORM. 'bulk': how many values and letters a reading holds, each counted each time it is reached (what is shared counts as often as it is met; a slice's spare places count too). A statement '..UptoSaid' is the law's where the arguments, and the package variables that the reading takes, are together of bulk at most 1048576: NARROWER than '..Said'. Prove '..Said' where nothing that the law and all that it calls make is longer than what came in: it says more and counts as full. Else prove '..UptoSaid'. A law counts once. -/
mutual
def uptoBulk {H : Type} : DataW H → Nat
  | .lit (.string bytes) => bytes.length + 1
  | .lit _ => 1
  | .nil => 1
  | .ptr d => uptoBulk d + 1
  | .slice elems spare => uptoBulkAll elems + uptoBulkAll spare + 1
  | .agg parts => uptoBulkAll parts + 1
  | .iface _ d => uptoBulk d + 1
  | .map entries => uptoBulkEntries entries + 1
  | .held _ => 1
def uptoBulkAll {H : Type} : List (DataW H) → Nat
  | [] => 0
  | d :: r => uptoBulk d + uptoBulkAll r
def uptoBulkEntries {H : Type} : List (Lit × DataW H) → Nat
  | [] => 0
  | x :: r => uptoBulkEntry x + uptoBulkEntries r
def uptoBulkEntry {H : Type} : Lit × DataW H → Nat
  | (.string bytes, d) => bytes.length + uptoBulk d + 1
  | (_, d) => uptoBulk d + 1
 end
def uptoSmall : (H : Type) → List (DataW H) → Bool := fun _ ds => decide (uptoBulkAll ds ≤ 1048576)
def OpenSpec.upto (s : _root_.Go.ChangeSpec) : _root_.Go.OpenSpec := { _root_.Go.OpenSpec.ofChange s with cond := some uptoSmall }

/-- 'heraldlaw11.SoftMemory', WHERE WHAT IT READS IS OF BULK AT MOST 1048576: true; the input reads as it did. -/
def softMemoryUptoRow : OpenClaim := { program := "ytohoppnpbgplnabdoor", sum := "c4c635118b6d832213286aa8fb4877c3144631bd9f63e55c5b126a6a49b7a751", func := "herald/heraldlaw11.SoftMemory", spec := "softMemory", inPlace := ["math/bits.Add64"], named := ["herald/fixed.bend"], apart := false, laid := [("herald/fixed.bend", laid_herald_fixed_bend)], narrowed := true }
def SoftMemoryUptoSaid : Prop := softMemoryUptoRow.holds Tryd.pinned (OpenSpec.upto softMemorySpec)

/-- 'heraldlaw11.SoftMasks', WHERE WHAT IT READS IS OF BULK AT MOST 1048576: true; the input reads as it did. -/
def softMasksUptoRow : OpenClaim := { program := "ytohoppnpbgplnabdoor", sum := "c4c635118b6d832213286aa8fb4877c3144631bd9f63e55c5b126a6a49b7a751", func := "herald/heraldlaw11.SoftMasks", spec := "softMasks", inPlace := ["math/bits.Add64"], named := ["herald/fixed.bend"], apart := false, laid := [("herald/fixed.bend", laid_herald_fixed_bend)], narrowed := true }
def SoftMasksUptoSaid : Prop := softMasksUptoRow.holds Tryd.pinned (OpenSpec.upto softMasksSpec)

/-- 'heraldlaw11.SoftSames', WHERE WHAT IT READS IS OF BULK AT MOST 1048576: true; the input reads as it did. -/
def softSamesUptoRow : OpenClaim := { program := "ytohoppnpbgplnabdoor", sum := "c4c635118b6d832213286aa8fb4877c3144631bd9f63e55c5b126a6a49b7a751", func := "herald/heraldlaw11.SoftSames", spec := "softSames", inPlace := ["math/bits.Add64"], named := ["herald/fixed.bend"], apart := false, laid := [("herald/fixed.bend", laid_herald_fixed_bend)], narrowed := true }
def SoftSamesUptoSaid : Prop := softSamesUptoRow.holds Tryd.pinned (OpenSpec.upto softSamesSpec)

end Rows
end Go.Proofs.YtohoppnpbgplnabDoor
