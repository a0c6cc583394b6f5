/-
  NARROWER THAN 'FOR EVERY INPUT', by the rows' own cells (each row's printed sentence says how): WireNil: laid · WireMemory: laid · WireExtends: laid · WireFrames: laid · WireTurned: laid.
  DERIVED. THE GIVEN ROWS OF THIS SEAT. 5 by the template 'for every input the law returns true; each argument reads behind the call as it read before'; 0 by the template 'total and deterministic' (their statements: YtcdgphneljgooabDoorTotals.lean).
  GIVEN WITH THE SEED: the statements are not yours to turn. If you find one false, say at which input.
  Laid BY PROGRAM, IN A SANDBOX (cutbox-rows.mjs): the forced cells as the released guide's own fill.sh prints them over the translation 91dc46fe9a11b817… (all of the seat's roots in one cut). By AI agents, Wed Nov 11 2026. No macro, syntax, notation, axiom, sorry.
-/
import Derived.Test.YtcdgphneljgooabDoorChecked
import GoSem.Claim
import GoSem.ClaimJoined
import GoSem.ClaimMapViews
import Derived.JoinedTies
import Derived.KernelRfl
namespace Go.Proofs.YtcdgphneljgooabDoor
/- THE CELL 'sum', in the pinned program and in every row, IS THE sha256 OF THE DUMP (.gsa) THAT YtcdgphneljgooabDoorProg.lean LOADS. Nothing in Lean hashes anything: it is a label: what it is worth is what the hold of that sum in a sandbox is worth. -/
noncomputable def Tryd.pinned : Pinned := { name := "ytcdgphneljgooabdoor", sum := "91dc46fe9a11b817fd46326c43719abe84c97dac9d7857d9ea9ff1d0747f3ba8", checked := Tryd.checked }
namespace Rows
def none {H : Type} : Left H := { results := [], args := [] }

/- WHAT THE LISTED PACKAGE-LEVEL VARIABLES READ AS WHEN THE CALL BEGINS. Each datum BY PROGRAM (the guide's laid-datum.mjs) off the statement by which the dump's own 'gosem.cut.vars' lays the variable. In a bare row this is a premise. The card (YtcdgphneljgooabDoorCards.lean) ties it to the program's text. -/
def laid_herald_wire_sizes {H : Type} : DataW H := .agg [.lit (.int .i64 1), .lit (.int .i64 2), .lit (.int .i64 4), .lit (.int .i64 8)]

/-- 'heraldlaw01.WireNil': WHATEVER THE INPUT: true; the input reads as it did. -/
def wireNilSpec : ChangeSpec := { name := "wireNil", fn := fun _ => fun
  | [d] => { results := [.lit (.bool true)], args := [d] }
  | _ => none }
def wireNilRow : OpenClaim := { program := "ytcdgphneljgooabdoor", sum := "91dc46fe9a11b817fd46326c43719abe84c97dac9d7857d9ea9ff1d0747f3ba8", func := "herald/heraldlaw01.WireNil", spec := "wireNil", named := ["herald/wire.sizes"], apart := false, laid := [("herald/wire.sizes", laid_herald_wire_sizes)] }
def WireNilSaid : Prop := wireNilRow.holds Tryd.pinned (OpenSpec.ofChange wireNilSpec)

/-- ITS FALSE NEIGHBOUR: 'it returns false'. Refute it at one input. -/
def wireNilWrong : ChangeSpec := { name := "wireNil", fn := fun _ => fun
  | [d] => { results := [.lit (.bool false)], args := [d] }
  | _ => none }
def WireNilWrongFalsely : Prop := wireNilRow.holds Tryd.pinned (OpenSpec.ofChange wireNilWrong)

/-- 'heraldlaw01.WireMemory': WHATEVER THE INPUT: true; the input reads as it did. -/
def wireMemorySpec : ChangeSpec := { name := "wireMemory", fn := fun _ => fun
  | [d1, d2] => { results := [.lit (.bool true)], args := [d1, d2] }
  | _ => none }
def wireMemoryRow : OpenClaim := { program := "ytcdgphneljgooabdoor", sum := "91dc46fe9a11b817fd46326c43719abe84c97dac9d7857d9ea9ff1d0747f3ba8", func := "herald/heraldlaw01.WireMemory", spec := "wireMemory", named := ["herald/wire.sizes"], apart := false, laid := [("herald/wire.sizes", laid_herald_wire_sizes)] }
def WireMemorySaid : Prop := wireMemoryRow.holds Tryd.pinned (OpenSpec.ofChange wireMemorySpec)

/-- ITS FALSE NEIGHBOUR: 'it returns false'. Refute it at one input. -/
def wireMemoryWrong : ChangeSpec := { name := "wireMemory", fn := fun _ => fun
  | [d1, d2] => { results := [.lit (.bool false)], args := [d1, d2] }
  | _ => none }
def WireMemoryWrongFalsely : Prop := wireMemoryRow.holds Tryd.pinned (OpenSpec.ofChange wireMemoryWrong)

/-- 'heraldlaw01.WireExtends': WHATEVER THE INPUT: true; the input reads as it did. -/
def wireExtendsSpec : ChangeSpec := { name := "wireExtends", fn := fun _ => fun
  | [d1, d2, d3] => { results := [.lit (.bool true)], args := [d1, d2, d3] }
  | _ => none }
def wireExtendsRow : OpenClaim := { program := "ytcdgphneljgooabdoor", sum := "91dc46fe9a11b817fd46326c43719abe84c97dac9d7857d9ea9ff1d0747f3ba8", func := "herald/heraldlaw01.WireExtends", spec := "wireExtends", named := ["herald/wire.sizes"], apart := false, laid := [("herald/wire.sizes", laid_herald_wire_sizes)] }
def WireExtendsSaid : Prop := wireExtendsRow.holds Tryd.pinned (OpenSpec.ofChange wireExtendsSpec)

/-- ITS FALSE NEIGHBOUR: 'it returns false'. Refute it at one input. -/
def wireExtendsWrong : ChangeSpec := { name := "wireExtends", fn := fun _ => fun
  | [d1, d2, d3] => { results := [.lit (.bool false)], args := [d1, d2, d3] }
  | _ => none }
def WireExtendsWrongFalsely : Prop := wireExtendsRow.holds Tryd.pinned (OpenSpec.ofChange wireExtendsWrong)

/-- 'heraldlaw01.WireFrames': WHATEVER THE INPUT: true; the input reads as it did. -/
def wireFramesSpec : ChangeSpec := { name := "wireFrames", fn := fun _ => fun
  | [d1, d2, d3] => { results := [.lit (.bool true)], args := [d1, d2, d3] }
  | _ => none }
def wireFramesRow : OpenClaim := { program := "ytcdgphneljgooabdoor", sum := "91dc46fe9a11b817fd46326c43719abe84c97dac9d7857d9ea9ff1d0747f3ba8", func := "herald/heraldlaw01.WireFrames", spec := "wireFrames", named := ["herald/wire.sizes"], apart := false, laid := [("herald/wire.sizes", laid_herald_wire_sizes)] }
def WireFramesSaid : Prop := wireFramesRow.holds Tryd.pinned (OpenSpec.ofChange wireFramesSpec)

/-- ITS FALSE NEIGHBOUR: 'it returns false'. Refute it at one input. -/
def wireFramesWrong : ChangeSpec := { name := "wireFrames", fn := fun _ => fun
  | [d1, d2, d3] => { results := [.lit (.bool false)], args := [d1, d2, d3] }
  | _ => none }
def WireFramesWrongFalsely : Prop := wireFramesRow.holds Tryd.pinned (OpenSpec.ofChange wireFramesWrong)

/-- 'heraldlaw01.WireTurned': WHATEVER THE INPUT: true; the input reads as it did. -/
def wireTurnedSpec : ChangeSpec := { name := "wireTurned", fn := fun _ => fun
  | [d1, d2] => { results := [.lit (.bool true)], args := [d1, d2] }
  | _ => none }
def wireTurnedRow : OpenClaim := { program := "ytcdgphneljgooabdoor", sum := "91dc46fe9a11b817fd46326c43719abe84c97dac9d7857d9ea9ff1d0747f3ba8", func := "herald/heraldlaw01.WireTurned", spec := "wireTurned", named := ["herald/wire.sizes"], apart := false, laid := [("herald/wire.sizes", laid_herald_wire_sizes)] }
def WireTurnedSaid : Prop := wireTurnedRow.holds Tryd.pinned (OpenSpec.ofChange wireTurnedSpec)

/-- ITS FALSE NEIGHBOUR: 'it returns false'. Refute it at one input. -/
def wireTurnedWrong : ChangeSpec := { name := "wireTurned", fn := fun _ => fun
  | [d1, d2] => { results := [.lit (.bool false)], args := [d1, d2] }
  | _ => none }
def WireTurnedWrongFalsely : Prop := wireTurnedRow.holds Tryd.pinned (OpenSpec.ofChange wireTurnedWrong)

/- THE SECOND FORM. 'bulk': how many values and letters a reading holds, each counted each time it is reached (what is shared counts as often as it is met; a slice's spare places count too). A statement '..UptoSaid' is the law's where the arguments, and the package variables that the reading takes, are together of bulk at most 1048576: NARROWER than '..Said'. Prove '..Said' where nothing that the law and all that it calls make is longer than what came in: it says more and counts as full. Else prove '..UptoSaid'. A law counts once. -/
mutual
def uptoBulk {H : Type} : DataW H → Nat
  | .lit (.string bytes) => bytes.length + 1
  | .lit _ => 1
  | .nil => 1
  | .ptr d => uptoBulk d + 1
  | .slice elems spare => uptoBulkAll elems + uptoBulkAll spare + 1
  | .agg parts => uptoBulkAll parts + 1
  | .iface _ d => uptoBulk d + 1
  | .map entries => uptoBulkEntries entries + 1
  | .held _ => 1
def uptoBulkAll {H : Type} : List (DataW H) → Nat
  | [] => 0
  | d :: r => uptoBulk d + uptoBulkAll r
def uptoBulkEntries {H : Type} : List (Lit × DataW H) → Nat
  | [] => 0
  | x :: r => uptoBulkEntry x + uptoBulkEntries r
def uptoBulkEntry {H : Type} : Lit × DataW H → Nat
  | (.string bytes, d) => bytes.length + uptoBulk d + 1
  | (_, d) => uptoBulk d + 1
 end
def uptoSmall : (H : Type) → List (DataW H) → Bool := fun _ ds => decide (uptoBulkAll ds ≤ 1048576)
def OpenSpec.upto (s : _root_.Go.ChangeSpec) : _root_.Go.OpenSpec := { _root_.Go.OpenSpec.ofChange s with cond := some uptoSmall }

/-- 'heraldlaw01.WireNil', WHERE WHAT IT READS IS OF BULK AT MOST 1048576: true; the input reads as it did. -/
def wireNilUptoRow : OpenClaim := { program := "ytcdgphneljgooabdoor", sum := "91dc46fe9a11b817fd46326c43719abe84c97dac9d7857d9ea9ff1d0747f3ba8", func := "herald/heraldlaw01.WireNil", spec := "wireNil", named := ["herald/wire.sizes"], apart := false, laid := [("herald/wire.sizes", laid_herald_wire_sizes)], narrowed := true }
def WireNilUptoSaid : Prop := wireNilUptoRow.holds Tryd.pinned (OpenSpec.upto wireNilSpec)

/-- 'heraldlaw01.WireMemory', WHERE WHAT IT READS IS OF BULK AT MOST 1048576: true; the input reads as it did. -/
def wireMemoryUptoRow : OpenClaim := { program := "ytcdgphneljgooabdoor", sum := "91dc46fe9a11b817fd46326c43719abe84c97dac9d7857d9ea9ff1d0747f3ba8", func := "herald/heraldlaw01.WireMemory", spec := "wireMemory", named := ["herald/wire.sizes"], apart := false, laid := [("herald/wire.sizes", laid_herald_wire_sizes)], narrowed := true }
def WireMemoryUptoSaid : Prop := wireMemoryUptoRow.holds Tryd.pinned (OpenSpec.upto wireMemorySpec)

/-- 'heraldlaw01.WireExtends', WHERE WHAT IT READS IS OF BULK AT MOST 1048576: true; the input reads as it did. -/
def wireExtendsUptoRow : OpenClaim := { program := "ytcdgphneljgooabdoor", sum := "91dc46fe9a11b817fd46326c43719abe84c97dac9d7857d9ea9ff1d0747f3ba8", func := "herald/heraldlaw01.WireExtends", spec := "wireExtends", named := ["herald/wire.sizes"], apart := false, laid := [("herald/wire.sizes", laid_herald_wire_sizes)], narrowed := true }
def WireExtendsUptoSaid : Prop := wireExtendsUptoRow.holds Tryd.pinned (OpenSpec.upto wireExtendsSpec)

/-- 'heraldlaw01.WireFrames', WHERE WHAT IT READS IS OF BULK AT MOST 1048576: true; the input reads as it did. -/
def wireFramesUptoRow : OpenClaim := { program := "ytcdgphneljgooabdoor", sum := "91dc46fe9a11b817fd46326c43719abe84c97dac9d7857d9ea9ff1d0747f3ba8", func := "herald/heraldlaw01.WireFrames", spec := "wireFrames", named := ["herald/wire.sizes"], apart := false, laid := [("herald/wire.sizes", laid_herald_wire_sizes)], narrowed := true }
def WireFramesUptoSaid : Prop := wireFramesUptoRow.holds Tryd.pinned (OpenSpec.upto wireFramesSpec)

/-- 'heraldlaw01.WireTurned', WHERE WHAT IT READS IS OF BULK AT MOST 1048576: true; the input reads as it did. -/
def wireTurnedUptoRow : OpenClaim := { program := "ytcdgphneljgooabdoor", sum := "91dc46fe9a11b817fd46326c43719abe84c97dac9d7857d9ea9ff1d0747f3ba8", func := "herald/heraldlaw01.WireTurned", spec := "wireTurned", named := ["herald/wire.sizes"], apart := false, laid := [("herald/wire.sizes", laid_herald_wire_sizes)], narrowed := true }
def WireTurnedUptoSaid : Prop := wireTurnedUptoRow.holds Tryd.pinned (OpenSpec.upto wireTurnedSpec)

end Rows
end Go.Proofs.YtcdgphneljgooabDoor
