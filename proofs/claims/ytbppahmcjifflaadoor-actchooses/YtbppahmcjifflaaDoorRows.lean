/-
  NARROWER THAN 'FOR EVERY INPUT', by the rows' own cells (each row's printed sentence says how): ActTables: laid · ActGates: laid · ActMiddles: laid · ActBends: laid · ActShuts: laid · ActChooses: laid.
  DERIVED. THE GIVEN ROWS OF THIS SEAT. 6 by the template 'for every input the law returns true; each argument reads behind the call as it read before'; 0 by the template 'total and deterministic' (their statements: YtbppahmcjifflaaDoorTotals.lean).
  GIVEN WITH THE SEED: the statements are not yours to turn. If you find one false, say at which input.
  Laid BY PROGRAM, IN A SANDBOX (cutbox-rows.mjs): the forced cells as the released guide's own fill.sh prints them over the translation 330e0fa7b35046c7… (all of the seat's roots in one cut). By AI agents, Wed Nov 11 2026. No macro, syntax, notation, axiom, sorry.
-/
import Derived.Test.YtbppahmcjifflaaDoorChecked
import GoSem.Claim
import GoSem.ClaimJoined
import GoSem.ClaimMapViews
import Derived.JoinedTies
import Derived.KernelRfl
namespace Go.Proofs.YtbppahmcjifflaaDoor
/- THE CELL 'sum', in the pinned program and in every row, IS THE sha256 OF THE DUMP (.gsa) THAT YtbppahmcjifflaaDoorProg.lean LOADS. Nothing in Lean hashes anything: it is a label: what it is worth is what the hold of that sum in a sandbox is worth. -/
noncomputable def Tryd.pinned : Pinned := { name := "ytbppahmcjifflaadoor", sum := "330e0fa7b35046c72872b4a3d62c2a41f2253fa8efa8c724b82bc72dbea388f9", checked := Tryd.checked }
namespace Rows
def none {H : Type} : Left H := { results := [], args := [] }

/- WHAT THE LISTED PACKAGE-LEVEL VARIABLES READ AS WHEN THE CALL BEGINS. Each datum BY PROGRAM (the guide's laid-datum.mjs) off the statement by which the dump's own 'gosem.cut.vars' lays the variable. In a bare row this is a premise. The card (YtbppahmcjifflaaDoorCards.lean) ties it to the program's text. -/
def laid_herald_fixed_bend {H : Type} : DataW H := .agg [.lit (.int .i64 84941200), .lit (.int .i64 241400000), .lit (.int .i64 747400624)]

/-- 'heraldlaw12.ActTables': WHATEVER THE INPUT: true; the input reads as it did. -/
def actTablesSpec : ChangeSpec := { name := "actTables", fn := fun _ => fun
  | [d] => { results := [.lit (.bool true)], args := [d] }
  | _ => none }
def actTablesRow : OpenClaim := { program := "ytbppahmcjifflaadoor", sum := "330e0fa7b35046c72872b4a3d62c2a41f2253fa8efa8c724b82bc72dbea388f9", func := "herald/heraldlaw12.ActTables", spec := "actTables", unfollowed := true, recurses := true, named := ["herald/fixed.bend"], apart := false, laid := [("herald/fixed.bend", laid_herald_fixed_bend)] }
def ActTablesSaid : Prop := actTablesRow.holds Tryd.pinned (OpenSpec.ofChange actTablesSpec)

/-- ITS FALSE NEIGHBOUR: 'it returns false'. Refute it at one input. -/
def actTablesWrong : ChangeSpec := { name := "actTables", fn := fun _ => fun
  | [d] => { results := [.lit (.bool false)], args := [d] }
  | _ => none }
def ActTablesWrongFalsely : Prop := actTablesRow.holds Tryd.pinned (OpenSpec.ofChange actTablesWrong)

/-- 'heraldlaw12.ActGates': WHATEVER THE INPUT: true; the input reads as it did. -/
def actGatesSpec : ChangeSpec := { name := "actGates", fn := fun _ => fun
  | [d1, d2, d3] => { results := [.lit (.bool true)], args := [d1, d2, d3] }
  | _ => none }
def actGatesRow : OpenClaim := { program := "ytbppahmcjifflaadoor", sum := "330e0fa7b35046c72872b4a3d62c2a41f2253fa8efa8c724b82bc72dbea388f9", func := "herald/heraldlaw12.ActGates", spec := "actGates", unfollowed := true, recurses := true, named := ["herald/fixed.bend"], apart := false, laid := [("herald/fixed.bend", laid_herald_fixed_bend)] }
def ActGatesSaid : Prop := actGatesRow.holds Tryd.pinned (OpenSpec.ofChange actGatesSpec)

/-- ITS FALSE NEIGHBOUR: 'it returns false'. Refute it at one input. -/
def actGatesWrong : ChangeSpec := { name := "actGates", fn := fun _ => fun
  | [d1, d2, d3] => { results := [.lit (.bool false)], args := [d1, d2, d3] }
  | _ => none }
def ActGatesWrongFalsely : Prop := actGatesRow.holds Tryd.pinned (OpenSpec.ofChange actGatesWrong)

/-- 'heraldlaw12.ActMiddles': WHATEVER THE INPUT: true; the input reads as it did. -/
def actMiddlesSpec : ChangeSpec := { name := "actMiddles", fn := fun _ => fun
  | [d1, d2, d3] => { results := [.lit (.bool true)], args := [d1, d2, d3] }
  | _ => none }
def actMiddlesRow : OpenClaim := { program := "ytbppahmcjifflaadoor", sum := "330e0fa7b35046c72872b4a3d62c2a41f2253fa8efa8c724b82bc72dbea388f9", func := "herald/heraldlaw12.ActMiddles", spec := "actMiddles", unfollowed := true, recurses := true, named := ["herald/fixed.bend"], apart := false, laid := [("herald/fixed.bend", laid_herald_fixed_bend)] }
def ActMiddlesSaid : Prop := actMiddlesRow.holds Tryd.pinned (OpenSpec.ofChange actMiddlesSpec)

/-- ITS FALSE NEIGHBOUR: 'it returns false'. Refute it at one input. -/
def actMiddlesWrong : ChangeSpec := { name := "actMiddles", fn := fun _ => fun
  | [d1, d2, d3] => { results := [.lit (.bool false)], args := [d1, d2, d3] }
  | _ => none }
def ActMiddlesWrongFalsely : Prop := actMiddlesRow.holds Tryd.pinned (OpenSpec.ofChange actMiddlesWrong)

/-- 'heraldlaw12.ActBends': WHATEVER THE INPUT: true; the input reads as it did. -/
def actBendsSpec : ChangeSpec := { name := "actBends", fn := fun _ => fun
  | [d] => { results := [.lit (.bool true)], args := [d] }
  | _ => none }
def actBendsRow : OpenClaim := { program := "ytbppahmcjifflaadoor", sum := "330e0fa7b35046c72872b4a3d62c2a41f2253fa8efa8c724b82bc72dbea388f9", func := "herald/heraldlaw12.ActBends", spec := "actBends", unfollowed := true, recurses := true, named := ["herald/fixed.bend"], apart := false, laid := [("herald/fixed.bend", laid_herald_fixed_bend)] }
def ActBendsSaid : Prop := actBendsRow.holds Tryd.pinned (OpenSpec.ofChange actBendsSpec)

/-- ITS FALSE NEIGHBOUR: 'it returns false'. Refute it at one input. -/
def actBendsWrong : ChangeSpec := { name := "actBends", fn := fun _ => fun
  | [d] => { results := [.lit (.bool false)], args := [d] }
  | _ => none }
def ActBendsWrongFalsely : Prop := actBendsRow.holds Tryd.pinned (OpenSpec.ofChange actBendsWrong)

/-- 'heraldlaw12.ActShuts': WHATEVER THE INPUT: true; the input reads as it did. -/
def actShutsSpec : ChangeSpec := { name := "actShuts", fn := fun _ => fun
  | [d1, d2, d3] => { results := [.lit (.bool true)], args := [d1, d2, d3] }
  | _ => none }
def actShutsRow : OpenClaim := { program := "ytbppahmcjifflaadoor", sum := "330e0fa7b35046c72872b4a3d62c2a41f2253fa8efa8c724b82bc72dbea388f9", func := "herald/heraldlaw12.ActShuts", spec := "actShuts", unfollowed := true, recurses := true, named := ["herald/fixed.bend"], apart := false, laid := [("herald/fixed.bend", laid_herald_fixed_bend)] }
def ActShutsSaid : Prop := actShutsRow.holds Tryd.pinned (OpenSpec.ofChange actShutsSpec)

/-- ITS FALSE NEIGHBOUR: 'it returns false'. Refute it at one input. -/
def actShutsWrong : ChangeSpec := { name := "actShuts", fn := fun _ => fun
  | [d1, d2, d3] => { results := [.lit (.bool false)], args := [d1, d2, d3] }
  | _ => none }
def ActShutsWrongFalsely : Prop := actShutsRow.holds Tryd.pinned (OpenSpec.ofChange actShutsWrong)

/-- 'heraldlaw12.ActChooses': WHATEVER THE INPUT: true; the input reads as it did. -/
def actChoosesSpec : ChangeSpec := { name := "actChooses", fn := fun _ => fun
  | [d1, d2] => { results := [.lit (.bool true)], args := [d1, d2] }
  | _ => none }
def actChoosesRow : OpenClaim := { program := "ytbppahmcjifflaadoor", sum := "330e0fa7b35046c72872b4a3d62c2a41f2253fa8efa8c724b82bc72dbea388f9", func := "herald/heraldlaw12.ActChooses", spec := "actChooses", unfollowed := true, recurses := true, named := ["herald/fixed.bend"], apart := false, laid := [("herald/fixed.bend", laid_herald_fixed_bend)] }
def ActChoosesSaid : Prop := actChoosesRow.holds Tryd.pinned (OpenSpec.ofChange actChoosesSpec)

/-- ITS FALSE NEIGHBOUR: 'it returns false'. Refute it at one input. -/
def actChoosesWrong : ChangeSpec := { name := "actChooses", fn := fun _ => fun
  | [d1, d2] => { results := [.lit (.bool false)], args := [d1, d2] }
  | _ => none }
def ActChoosesWrongFalsely : Prop := actChoosesRow.holds Tryd.pinned (OpenSpec.ofChange actChoosesWrong)

/- THE SECOND FORM. 'bulk': how many values and letters a reading holds, each counted each time it is reached (what is shared counts as often as it is met; a slice's spare places count too). A statement '..UptoSaid' is the law's where the arguments, and the package variables that the reading takes, are together of bulk at most 1048576: NARROWER than '..Said'. Prove '..Said' where nothing that the law and all that it calls make is longer than what came in: it says more and counts as full. Else prove '..UptoSaid'. A law counts once. -/
mutual
def uptoBulk {H : Type} : DataW H → Nat
  | .lit (.string bytes) => bytes.length + 1
  | .lit _ => 1
  | .nil => 1
  | .ptr d => uptoBulk d + 1
  | .slice elems spare => uptoBulkAll elems + uptoBulkAll spare + 1
  | .agg parts => uptoBulkAll parts + 1
  | .iface _ d => uptoBulk d + 1
  | .map entries => uptoBulkEntries entries + 1
  | .held _ => 1
def uptoBulkAll {H : Type} : List (DataW H) → Nat
  | [] => 0
  | d :: r => uptoBulk d + uptoBulkAll r
def uptoBulkEntries {H : Type} : List (Lit × DataW H) → Nat
  | [] => 0
  | x :: r => uptoBulkEntry x + uptoBulkEntries r
def uptoBulkEntry {H : Type} : Lit × DataW H → Nat
  | (.string bytes, d) => bytes.length + uptoBulk d + 1
  | (_, d) => uptoBulk d + 1
 end
def uptoSmall : (H : Type) → List (DataW H) → Bool := fun _ ds => decide (uptoBulkAll ds ≤ 1048576)
def OpenSpec.upto (s : _root_.Go.ChangeSpec) : _root_.Go.OpenSpec := { _root_.Go.OpenSpec.ofChange s with cond := some uptoSmall }

/-- 'heraldlaw12.ActTables', WHERE WHAT IT READS IS OF BULK AT MOST 1048576: true; the input reads as it did. -/
def actTablesUptoRow : OpenClaim := { program := "ytbppahmcjifflaadoor", sum := "330e0fa7b35046c72872b4a3d62c2a41f2253fa8efa8c724b82bc72dbea388f9", func := "herald/heraldlaw12.ActTables", spec := "actTables", unfollowed := true, recurses := true, named := ["herald/fixed.bend"], apart := false, laid := [("herald/fixed.bend", laid_herald_fixed_bend)], narrowed := true }
def ActTablesUptoSaid : Prop := actTablesUptoRow.holds Tryd.pinned (OpenSpec.upto actTablesSpec)

/-- 'heraldlaw12.ActGates', WHERE WHAT IT READS IS OF BULK AT MOST 1048576: true; the input reads as it did. -/
def actGatesUptoRow : OpenClaim := { program := "ytbppahmcjifflaadoor", sum := "330e0fa7b35046c72872b4a3d62c2a41f2253fa8efa8c724b82bc72dbea388f9", func := "herald/heraldlaw12.ActGates", spec := "actGates", unfollowed := true, recurses := true, named := ["herald/fixed.bend"], apart := false, laid := [("herald/fixed.bend", laid_herald_fixed_bend)], narrowed := true }
def ActGatesUptoSaid : Prop := actGatesUptoRow.holds Tryd.pinned (OpenSpec.upto actGatesSpec)

/-- 'heraldlaw12.ActMiddles', WHERE WHAT IT READS IS OF BULK AT MOST 1048576: true; the input reads as it did. -/
def actMiddlesUptoRow : OpenClaim := { program := "ytbppahmcjifflaadoor", sum := "330e0fa7b35046c72872b4a3d62c2a41f2253fa8efa8c724b82bc72dbea388f9", func := "herald/heraldlaw12.ActMiddles", spec := "actMiddles", unfollowed := true, recurses := true, named := ["herald/fixed.bend"], apart := false, laid := [("herald/fixed.bend", laid_herald_fixed_bend)], narrowed := true }
def ActMiddlesUptoSaid : Prop := actMiddlesUptoRow.holds Tryd.pinned (OpenSpec.upto actMiddlesSpec)

/-- 'heraldlaw12.ActBends', WHERE WHAT IT READS IS OF BULK AT MOST 1048576: true; the input reads as it did. -/
def actBendsUptoRow : OpenClaim := { program := "ytbppahmcjifflaadoor", sum := "330e0fa7b35046c72872b4a3d62c2a41f2253fa8efa8c724b82bc72dbea388f9", func := "herald/heraldlaw12.ActBends", spec := "actBends", unfollowed := true, recurses := true, named := ["herald/fixed.bend"], apart := false, laid := [("herald/fixed.bend", laid_herald_fixed_bend)], narrowed := true }
def ActBendsUptoSaid : Prop := actBendsUptoRow.holds Tryd.pinned (OpenSpec.upto actBendsSpec)

/-- 'heraldlaw12.ActShuts', WHERE WHAT IT READS IS OF BULK AT MOST 1048576: true; the input reads as it did. -/
def actShutsUptoRow : OpenClaim := { program := "ytbppahmcjifflaadoor", sum := "330e0fa7b35046c72872b4a3d62c2a41f2253fa8efa8c724b82bc72dbea388f9", func := "herald/heraldlaw12.ActShuts", spec := "actShuts", unfollowed := true, recurses := true, named := ["herald/fixed.bend"], apart := false, laid := [("herald/fixed.bend", laid_herald_fixed_bend)], narrowed := true }
def ActShutsUptoSaid : Prop := actShutsUptoRow.holds Tryd.pinned (OpenSpec.upto actShutsSpec)

/-- 'heraldlaw12.ActChooses', WHERE WHAT IT READS IS OF BULK AT MOST 1048576: true; the input reads as it did. -/
def actChoosesUptoRow : OpenClaim := { program := "ytbppahmcjifflaadoor", sum := "330e0fa7b35046c72872b4a3d62c2a41f2253fa8efa8c724b82bc72dbea388f9", func := "herald/heraldlaw12.ActChooses", spec := "actChooses", unfollowed := true, recurses := true, named := ["herald/fixed.bend"], apart := false, laid := [("herald/fixed.bend", laid_herald_fixed_bend)], narrowed := true }
def ActChoosesUptoSaid : Prop := actChoosesUptoRow.holds Tryd.pinned (OpenSpec.upto actChoosesSpec)

end Rows
end Go.Proofs.YtbppahmcjifflaaDoor
