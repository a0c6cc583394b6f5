/-
  NARROWER THAN 'FOR EVERY INPUT', by the rows' own cells (each row's printed sentence says how): WireSums: laid · WireTurns: laid · WireWrites: laid · WireReads: laid · WireBack: laid · WireTwo: laid.
  DERIVED. THE GIVEN ROWS OF THIS SEAT. 6 by the template 'for every input the law returns true; each argument reads behind the call as it read before'; 0 by the template 'total and deterministic' (their statements: YtcdgphneljgooaaDoorTotals.lean).
  GIVEN WITH THE SEED: the statements are not yours to turn. If you find one false, say at which input.
  Laid BY PROGRAM, IN A SANDBOX (cutbox-rows.mjs): the forced cells as the released guide's own fill.sh prints them over the translation a648811199c56ba4… (all of the seat's roots in one cut). By AI agents, Wed Nov 11 2026. No macro, syntax, notation, axiom, sorry.
-/
import Derived.Test.YtcdgphneljgooaaDoorChecked
import GoSem.Claim
import GoSem.ClaimJoined
import GoSem.ClaimMapViews
import Derived.JoinedTies
import Derived.KernelRfl
namespace Go.Proofs.YtcdgphneljgooaaDoor
/- THE CELL 'sum', in the pinned program and in every row, IS THE sha256 OF THE DUMP (.gsa) THAT YtcdgphneljgooaaDoorProg.lean LOADS. Nothing in Lean hashes anything: it is a label: what it is worth is what the hold of that sum in a sandbox is worth. -/
noncomputable def Tryd.pinned : Pinned := { name := "ytcdgphneljgooaadoor", sum := "a648811199c56ba410a3bc926239a111426e6fb8e851e683bc2bb661cb8ddbc7", checked := Tryd.checked }
namespace Rows
def none {H : Type} : Left H := { results := [], args := [] }

/- WHAT THE LISTED PACKAGE-LEVEL VARIABLES READ AS WHEN THE CALL BEGINS. Each datum BY PROGRAM (the guide's laid-datum.mjs) off the statement by which the dump's own 'gosem.cut.vars' lays the variable. In a bare row this is a premise. The card (YtcdgphneljgooaaDoorCards.lean) ties it to the program's text. -/
def laid_herald_wire_sizes {H : Type} : DataW H := .agg [.lit (.int .i64 1), .lit (.int .i64 2), .lit (.int .i64 4), .lit (.int .i64 8)]

/-- 'heraldlaw01.WireSums': WHATEVER THE INPUT: true; the input reads as it did. -/
def wireSumsSpec : ChangeSpec := { name := "wireSums", fn := fun _ => fun
  | [d] => { results := [.lit (.bool true)], args := [d] }
  | _ => none }
def wireSumsRow : OpenClaim := { program := "ytcdgphneljgooaadoor", sum := "a648811199c56ba410a3bc926239a111426e6fb8e851e683bc2bb661cb8ddbc7", func := "herald/heraldlaw01.WireSums", spec := "wireSums", named := ["herald/wire.sizes"], apart := false, laid := [("herald/wire.sizes", laid_herald_wire_sizes)] }
def WireSumsSaid : Prop := wireSumsRow.holds Tryd.pinned (OpenSpec.ofChange wireSumsSpec)

/-- ITS FALSE NEIGHBOUR: 'it returns false'. Refute it at one input. -/
def wireSumsWrong : ChangeSpec := { name := "wireSums", fn := fun _ => fun
  | [d] => { results := [.lit (.bool false)], args := [d] }
  | _ => none }
def WireSumsWrongFalsely : Prop := wireSumsRow.holds Tryd.pinned (OpenSpec.ofChange wireSumsWrong)

/-- 'heraldlaw01.WireTurns': WHATEVER THE INPUT: true; the input reads as it did. -/
def wireTurnsSpec : ChangeSpec := { name := "wireTurns", fn := fun _ => fun
  | [d1, d2, d3] => { results := [.lit (.bool true)], args := [d1, d2, d3] }
  | _ => none }
def wireTurnsRow : OpenClaim := { program := "ytcdgphneljgooaadoor", sum := "a648811199c56ba410a3bc926239a111426e6fb8e851e683bc2bb661cb8ddbc7", func := "herald/heraldlaw01.WireTurns", spec := "wireTurns", named := ["herald/wire.sizes"], apart := false, laid := [("herald/wire.sizes", laid_herald_wire_sizes)] }
def WireTurnsSaid : Prop := wireTurnsRow.holds Tryd.pinned (OpenSpec.ofChange wireTurnsSpec)

/-- ITS FALSE NEIGHBOUR: 'it returns false'. Refute it at one input. -/
def wireTurnsWrong : ChangeSpec := { name := "wireTurns", fn := fun _ => fun
  | [d1, d2, d3] => { results := [.lit (.bool false)], args := [d1, d2, d3] }
  | _ => none }
def WireTurnsWrongFalsely : Prop := wireTurnsRow.holds Tryd.pinned (OpenSpec.ofChange wireTurnsWrong)

/-- 'heraldlaw01.WireWrites': WHATEVER THE INPUT: true; the input reads as it did. -/
def wireWritesSpec : ChangeSpec := { name := "wireWrites", fn := fun _ => fun
  | [d] => { results := [.lit (.bool true)], args := [d] }
  | _ => none }
def wireWritesRow : OpenClaim := { program := "ytcdgphneljgooaadoor", sum := "a648811199c56ba410a3bc926239a111426e6fb8e851e683bc2bb661cb8ddbc7", func := "herald/heraldlaw01.WireWrites", spec := "wireWrites", named := ["herald/wire.sizes"], apart := false, laid := [("herald/wire.sizes", laid_herald_wire_sizes)] }
def WireWritesSaid : Prop := wireWritesRow.holds Tryd.pinned (OpenSpec.ofChange wireWritesSpec)

/-- ITS FALSE NEIGHBOUR: 'it returns false'. Refute it at one input. -/
def wireWritesWrong : ChangeSpec := { name := "wireWrites", fn := fun _ => fun
  | [d] => { results := [.lit (.bool false)], args := [d] }
  | _ => none }
def WireWritesWrongFalsely : Prop := wireWritesRow.holds Tryd.pinned (OpenSpec.ofChange wireWritesWrong)

/-- 'heraldlaw01.WireReads': WHATEVER THE INPUT: true; the input reads as it did. -/
def wireReadsSpec : ChangeSpec := { name := "wireReads", fn := fun _ => fun
  | [d1, d2] => { results := [.lit (.bool true)], args := [d1, d2] }
  | _ => none }
def wireReadsRow : OpenClaim := { program := "ytcdgphneljgooaadoor", sum := "a648811199c56ba410a3bc926239a111426e6fb8e851e683bc2bb661cb8ddbc7", func := "herald/heraldlaw01.WireReads", spec := "wireReads", named := ["herald/wire.sizes"], apart := false, laid := [("herald/wire.sizes", laid_herald_wire_sizes)] }
def WireReadsSaid : Prop := wireReadsRow.holds Tryd.pinned (OpenSpec.ofChange wireReadsSpec)

/-- ITS FALSE NEIGHBOUR: 'it returns false'. Refute it at one input. -/
def wireReadsWrong : ChangeSpec := { name := "wireReads", fn := fun _ => fun
  | [d1, d2] => { results := [.lit (.bool false)], args := [d1, d2] }
  | _ => none }
def WireReadsWrongFalsely : Prop := wireReadsRow.holds Tryd.pinned (OpenSpec.ofChange wireReadsWrong)

/-- 'heraldlaw01.WireBack': WHATEVER THE INPUT: true; the input reads as it did. -/
def wireBackSpec : ChangeSpec := { name := "wireBack", fn := fun _ => fun
  | [d1, d2] => { results := [.lit (.bool true)], args := [d1, d2] }
  | _ => none }
def wireBackRow : OpenClaim := { program := "ytcdgphneljgooaadoor", sum := "a648811199c56ba410a3bc926239a111426e6fb8e851e683bc2bb661cb8ddbc7", func := "herald/heraldlaw01.WireBack", spec := "wireBack", named := ["herald/wire.sizes"], apart := false, laid := [("herald/wire.sizes", laid_herald_wire_sizes)] }
def WireBackSaid : Prop := wireBackRow.holds Tryd.pinned (OpenSpec.ofChange wireBackSpec)

/-- ITS FALSE NEIGHBOUR: 'it returns false'. Refute it at one input. -/
def wireBackWrong : ChangeSpec := { name := "wireBack", fn := fun _ => fun
  | [d1, d2] => { results := [.lit (.bool false)], args := [d1, d2] }
  | _ => none }
def WireBackWrongFalsely : Prop := wireBackRow.holds Tryd.pinned (OpenSpec.ofChange wireBackWrong)

/-- 'heraldlaw01.WireTwo': WHATEVER THE INPUT: true; the input reads as it did. -/
def wireTwoSpec : ChangeSpec := { name := "wireTwo", fn := fun _ => fun
  | [d] => { results := [.lit (.bool true)], args := [d] }
  | _ => none }
def wireTwoRow : OpenClaim := { program := "ytcdgphneljgooaadoor", sum := "a648811199c56ba410a3bc926239a111426e6fb8e851e683bc2bb661cb8ddbc7", func := "herald/heraldlaw01.WireTwo", spec := "wireTwo", named := ["herald/wire.sizes"], apart := false, laid := [("herald/wire.sizes", laid_herald_wire_sizes)] }
def WireTwoSaid : Prop := wireTwoRow.holds Tryd.pinned (OpenSpec.ofChange wireTwoSpec)

/-- ITS FALSE NEIGHBOUR: 'it returns false'. Refute it at one input. -/
def wireTwoWrong : ChangeSpec := { name := "wireTwo", fn := fun _ => fun
  | [d] => { results := [.lit (.bool false)], args := [d] }
  | _ => none }
def WireTwoWrongFalsely : Prop := wireTwoRow.holds Tryd.pinned (OpenSpec.ofChange wireTwoWrong)

/- THE SECOND FORM. 'bulk': how many values and letters a reading holds, each counted each time it is reached (what is shared counts as often as it is met; a slice's spare places count too). A statement '..UptoSaid' is the law's where the arguments, and the package variables that the reading takes, are together of bulk at most 1048576: NARROWER than '..Said'. Prove '..Said' where nothing that the law and all that it calls make is longer than what came in: it says more and counts as full. Else prove '..UptoSaid'. A law counts once. -/
mutual
def uptoBulk {H : Type} : DataW H → Nat
  | .lit (.string bytes) => bytes.length + 1
  | .lit _ => 1
  | .nil => 1
  | .ptr d => uptoBulk d + 1
  | .slice elems spare => uptoBulkAll elems + uptoBulkAll spare + 1
  | .agg parts => uptoBulkAll parts + 1
  | .iface _ d => uptoBulk d + 1
  | .map entries => uptoBulkEntries entries + 1
  | .held _ => 1
def uptoBulkAll {H : Type} : List (DataW H) → Nat
  | [] => 0
  | d :: r => uptoBulk d + uptoBulkAll r
def uptoBulkEntries {H : Type} : List (Lit × DataW H) → Nat
  | [] => 0
  | x :: r => uptoBulkEntry x + uptoBulkEntries r
def uptoBulkEntry {H : Type} : Lit × DataW H → Nat
  | (.string bytes, d) => bytes.length + uptoBulk d + 1
  | (_, d) => uptoBulk d + 1
 end
def uptoSmall : (H : Type) → List (DataW H) → Bool := fun _ ds => decide (uptoBulkAll ds ≤ 1048576)
def OpenSpec.upto (s : _root_.Go.ChangeSpec) : _root_.Go.OpenSpec := { _root_.Go.OpenSpec.ofChange s with cond := some uptoSmall }

/-- 'heraldlaw01.WireSums', WHERE WHAT IT READS IS OF BULK AT MOST 1048576: true; the input reads as it did. -/
def wireSumsUptoRow : OpenClaim := { program := "ytcdgphneljgooaadoor", sum := "a648811199c56ba410a3bc926239a111426e6fb8e851e683bc2bb661cb8ddbc7", func := "herald/heraldlaw01.WireSums", spec := "wireSums", named := ["herald/wire.sizes"], apart := false, laid := [("herald/wire.sizes", laid_herald_wire_sizes)], narrowed := true }
def WireSumsUptoSaid : Prop := wireSumsUptoRow.holds Tryd.pinned (OpenSpec.upto wireSumsSpec)

/-- 'heraldlaw01.WireTurns', WHERE WHAT IT READS IS OF BULK AT MOST 1048576: true; the input reads as it did. -/
def wireTurnsUptoRow : OpenClaim := { program := "ytcdgphneljgooaadoor", sum := "a648811199c56ba410a3bc926239a111426e6fb8e851e683bc2bb661cb8ddbc7", func := "herald/heraldlaw01.WireTurns", spec := "wireTurns", named := ["herald/wire.sizes"], apart := false, laid := [("herald/wire.sizes", laid_herald_wire_sizes)], narrowed := true }
def WireTurnsUptoSaid : Prop := wireTurnsUptoRow.holds Tryd.pinned (OpenSpec.upto wireTurnsSpec)

/-- 'heraldlaw01.WireWrites', WHERE WHAT IT READS IS OF BULK AT MOST 1048576: true; the input reads as it did. -/
def wireWritesUptoRow : OpenClaim := { program := "ytcdgphneljgooaadoor", sum := "a648811199c56ba410a3bc926239a111426e6fb8e851e683bc2bb661cb8ddbc7", func := "herald/heraldlaw01.WireWrites", spec := "wireWrites", named := ["herald/wire.sizes"], apart := false, laid := [("herald/wire.sizes", laid_herald_wire_sizes)], narrowed := true }
def WireWritesUptoSaid : Prop := wireWritesUptoRow.holds Tryd.pinned (OpenSpec.upto wireWritesSpec)

/-- 'heraldlaw01.WireReads', WHERE WHAT IT READS IS OF BULK AT MOST 1048576: true; the input reads as it did. -/
def wireReadsUptoRow : OpenClaim := { program := "ytcdgphneljgooaadoor", sum := "a648811199c56ba410a3bc926239a111426e6fb8e851e683bc2bb661cb8ddbc7", func := "herald/heraldlaw01.WireReads", spec := "wireReads", named := ["herald/wire.sizes"], apart := false, laid := [("herald/wire.sizes", laid_herald_wire_sizes)], narrowed := true }
def WireReadsUptoSaid : Prop := wireReadsUptoRow.holds Tryd.pinned (OpenSpec.upto wireReadsSpec)

/-- 'heraldlaw01.WireBack', WHERE WHAT IT READS IS OF BULK AT MOST 1048576: true; the input reads as it did. -/
def wireBackUptoRow : OpenClaim := { program := "ytcdgphneljgooaadoor", sum := "a648811199c56ba410a3bc926239a111426e6fb8e851e683bc2bb661cb8ddbc7", func := "herald/heraldlaw01.WireBack", spec := "wireBack", named := ["herald/wire.sizes"], apart := false, laid := [("herald/wire.sizes", laid_herald_wire_sizes)], narrowed := true }
def WireBackUptoSaid : Prop := wireBackUptoRow.holds Tryd.pinned (OpenSpec.upto wireBackSpec)

/-- 'heraldlaw01.WireTwo', WHERE WHAT IT READS IS OF BULK AT MOST 1048576: true; the input reads as it did. -/
def wireTwoUptoRow : OpenClaim := { program := "ytcdgphneljgooaadoor", sum := "a648811199c56ba410a3bc926239a111426e6fb8e851e683bc2bb661cb8ddbc7", func := "herald/heraldlaw01.WireTwo", spec := "wireTwo", named := ["herald/wire.sizes"], apart := false, laid := [("herald/wire.sizes", laid_herald_wire_sizes)], narrowed := true }
def WireTwoUptoSaid : Prop := wireTwoUptoRow.holds Tryd.pinned (OpenSpec.upto wireTwoSpec)

end Rows
end Go.Proofs.YtcdgphneljgooaaDoor
