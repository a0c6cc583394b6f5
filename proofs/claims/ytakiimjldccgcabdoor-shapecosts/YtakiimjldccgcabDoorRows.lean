/-
  NARROWER THAN 'FOR EVERY INPUT', by the rows' own cells (each row's printed sentence says how): ShapeCosts: laid · ShapeCuts: laid.
  DERIVED. THE GIVEN ROWS OF THIS SEAT. 2 by the template 'for every input the law returns true; each argument reads behind the call as it read before'; 0 by the template 'total and deterministic' (their statements: YtakiimjldccgcabDoorTotals.lean).
  GIVEN WITH THE SEED: the statements are not yours to turn. If you find one false, say at which input.
  Laid BY PROGRAM, IN A SANDBOX (cutbox-rows.mjs): the forced cells as the released guide's own fill.sh prints them over the translation 3679434c62375da5… (all of the seat's roots in one cut). By AI agents, Wed Nov 11 2026. No macro, syntax, notation, axiom, sorry.
-/
import Derived.Test.YtakiimjldccgcabDoorChecked
import GoSem.Claim
import GoSem.ClaimJoined
import GoSem.ClaimMapViews
import Derived.JoinedTies
import Derived.KernelRfl
namespace Go.Proofs.YtakiimjldccgcabDoor
/- THE CELL 'sum', in the pinned program and in every row, IS THE sha256 OF THE DUMP (.gsa) THAT YtakiimjldccgcabDoorProg.lean LOADS. Nothing in Lean hashes anything: it is a label: what it is worth is what the hold of that sum in a sandbox is worth. -/
noncomputable def Tryd.pinned : Pinned := { name := "ytakiimjldccgcabdoor", sum := "3679434c62375da5a34157fe1e9e82abf95795f405013df104d1bea8ee25add3", checked := Tryd.checked }
namespace Rows
def none {H : Type} : Left H := { results := [], args := [] }

/- WHAT THE LISTED PACKAGE-LEVEL VARIABLES READ AS WHEN THE CALL BEGINS. Each datum BY PROGRAM (the guide's laid-datum.mjs) off the statement by which the dump's own 'gosem.cut.vars' lays the variable. In a bare row this is a premise. The card (YtakiimjldccgcabDoorCards.lean) ties it to the program's text. -/
def laid_herald_fixed_bend {H : Type} : DataW H := .agg [.lit (.int .i64 84941200), .lit (.int .i64 241400000), .lit (.int .i64 747400624)]
def laid_herald_rope_sines {H : Type} : DataW H := .agg [.lit (.int .i8 0), .lit (.int .i8 2), .lit (.int .i8 3), .lit (.int .i8 5), .lit (.int .i8 6), .lit (.int .i8 8), .lit (.int .i8 9), .lit (.int .i8 11), .lit (.int .i8 12), .lit (.int .i8 14), .lit (.int .i8 16), .lit (.int .i8 17), .lit (.int .i8 19), .lit (.int .i8 20), .lit (.int .i8 22), .lit (.int .i8 23), .lit (.int .i8 24), .lit (.int .i8 26), .lit (.int .i8 27), .lit (.int .i8 29), .lit (.int .i8 30), .lit (.int .i8 32), .lit (.int .i8 33), .lit (.int .i8 34), .lit (.int .i8 36), .lit (.int .i8 37), .lit (.int .i8 38), .lit (.int .i8 39), .lit (.int .i8 41), .lit (.int .i8 42), .lit (.int .i8 43), .lit (.int .i8 44), .lit (.int .i8 45), .lit (.int .i8 46), .lit (.int .i8 47), .lit (.int .i8 48), .lit (.int .i8 49), .lit (.int .i8 50), .lit (.int .i8 51), .lit (.int .i8 52), .lit (.int .i8 53), .lit (.int .i8 54), .lit (.int .i8 55), .lit (.int .i8 56), .lit (.int .i8 56), .lit (.int .i8 57), .lit (.int .i8 58), .lit (.int .i8 59), .lit (.int .i8 59), .lit (.int .i8 60), .lit (.int .i8 60), .lit (.int .i8 61), .lit (.int .i8 61), .lit (.int .i8 62), .lit (.int .i8 62), .lit (.int .i8 62), .lit (.int .i8 63), .lit (.int .i8 63), .lit (.int .i8 63), .lit (.int .i8 64), .lit (.int .i8 64), .lit (.int .i8 64), .lit (.int .i8 64), .lit (.int .i8 64), .lit (.int .i8 64)]

/-- 'heraldlaw16.ShapeCosts': WHATEVER THE INPUT: true; the input reads as it did. -/
def shapeCostsSpec : ChangeSpec := { name := "shapeCosts", fn := fun _ => fun
  | [d1, d2, d3] => { results := [.lit (.bool true)], args := [d1, d2, d3] }
  | _ => none }
def shapeCostsRow : OpenClaim := { program := "ytakiimjldccgcabdoor", sum := "3679434c62375da5a34157fe1e9e82abf95795f405013df104d1bea8ee25add3", func := "herald/heraldlaw16.ShapeCosts", spec := "shapeCosts", unfollowed := true, recurses := true, named := ["herald/rope.sines", "herald/fixed.bend"], plainKeys := false, apart := false, laid := [("herald/fixed.bend", laid_herald_fixed_bend), ("herald/rope.sines", laid_herald_rope_sines)] }
def ShapeCostsSaid : Prop := shapeCostsRow.holds Tryd.pinned (OpenSpec.ofChange shapeCostsSpec)

/-- ITS FALSE NEIGHBOUR: 'it returns false'. Refute it at one input. -/
def shapeCostsWrong : ChangeSpec := { name := "shapeCosts", fn := fun _ => fun
  | [d1, d2, d3] => { results := [.lit (.bool false)], args := [d1, d2, d3] }
  | _ => none }
def ShapeCostsWrongFalsely : Prop := shapeCostsRow.holds Tryd.pinned (OpenSpec.ofChange shapeCostsWrong)

/-- 'heraldlaw16.ShapeCuts': WHATEVER THE INPUT: true; the input reads as it did. -/
def shapeCutsSpec : ChangeSpec := { name := "shapeCuts", fn := fun _ => fun
  | [d1, d2, d3] => { results := [.lit (.bool true)], args := [d1, d2, d3] }
  | _ => none }
def shapeCutsRow : OpenClaim := { program := "ytakiimjldccgcabdoor", sum := "3679434c62375da5a34157fe1e9e82abf95795f405013df104d1bea8ee25add3", func := "herald/heraldlaw16.ShapeCuts", spec := "shapeCuts", unfollowed := true, recurses := true, named := ["herald/rope.sines", "herald/fixed.bend"], plainKeys := false, apart := false, laid := [("herald/fixed.bend", laid_herald_fixed_bend), ("herald/rope.sines", laid_herald_rope_sines)] }
def ShapeCutsSaid : Prop := shapeCutsRow.holds Tryd.pinned (OpenSpec.ofChange shapeCutsSpec)

/-- ITS FALSE NEIGHBOUR: 'it returns false'. Refute it at one input. -/
def shapeCutsWrong : ChangeSpec := { name := "shapeCuts", fn := fun _ => fun
  | [d1, d2, d3] => { results := [.lit (.bool false)], args := [d1, d2, d3] }
  | _ => none }
def ShapeCutsWrongFalsely : Prop := shapeCutsRow.holds Tryd.pinned (OpenSpec.ofChange shapeCutsWrong)

/- THE SECOND FORM. 'bulk': how many values and letters a reading holds, each counted each time it is reached (what is shared counts as often as it is met; a slice's spare places count too). A statement '..UptoSaid' is the law's where the arguments, and the package variables that the reading takes, are together of bulk at most 1048576: NARROWER than '..Said'. Prove '..Said' where nothing that the law and all that it calls make is longer than what came in: it says more and counts as full. Else prove '..UptoSaid'. A law counts once. -/
mutual
def uptoBulk {H : Type} : DataW H → Nat
  | .lit (.string bytes) => bytes.length + 1
  | .lit _ => 1
  | .nil => 1
  | .ptr d => uptoBulk d + 1
  | .slice elems spare => uptoBulkAll elems + uptoBulkAll spare + 1
  | .agg parts => uptoBulkAll parts + 1
  | .iface _ d => uptoBulk d + 1
  | .map entries => uptoBulkEntries entries + 1
  | .held _ => 1
def uptoBulkAll {H : Type} : List (DataW H) → Nat
  | [] => 0
  | d :: r => uptoBulk d + uptoBulkAll r
def uptoBulkEntries {H : Type} : List (Lit × DataW H) → Nat
  | [] => 0
  | x :: r => uptoBulkEntry x + uptoBulkEntries r
def uptoBulkEntry {H : Type} : Lit × DataW H → Nat
  | (.string bytes, d) => bytes.length + uptoBulk d + 1
  | (_, d) => uptoBulk d + 1
 end
def uptoSmall : (H : Type) → List (DataW H) → Bool := fun _ ds => decide (uptoBulkAll ds ≤ 1048576)
def OpenSpec.upto (s : _root_.Go.ChangeSpec) : _root_.Go.OpenSpec := { _root_.Go.OpenSpec.ofChange s with cond := some uptoSmall }

/-- 'heraldlaw16.ShapeCosts', WHERE WHAT IT READS IS OF BULK AT MOST 1048576: true; the input reads as it did. -/
def shapeCostsUptoRow : OpenClaim := { program := "ytakiimjldccgcabdoor", sum := "3679434c62375da5a34157fe1e9e82abf95795f405013df104d1bea8ee25add3", func := "herald/heraldlaw16.ShapeCosts", spec := "shapeCosts", unfollowed := true, recurses := true, named := ["herald/rope.sines", "herald/fixed.bend"], plainKeys := false, apart := false, laid := [("herald/fixed.bend", laid_herald_fixed_bend), ("herald/rope.sines", laid_herald_rope_sines)], narrowed := true }
def ShapeCostsUptoSaid : Prop := shapeCostsUptoRow.holds Tryd.pinned (OpenSpec.upto shapeCostsSpec)

/-- 'heraldlaw16.ShapeCuts', WHERE WHAT IT READS IS OF BULK AT MOST 1048576: true; the input reads as it did. -/
def shapeCutsUptoRow : OpenClaim := { program := "ytakiimjldccgcabdoor", sum := "3679434c62375da5a34157fe1e9e82abf95795f405013df104d1bea8ee25add3", func := "herald/heraldlaw16.ShapeCuts", spec := "shapeCuts", unfollowed := true, recurses := true, named := ["herald/rope.sines", "herald/fixed.bend"], plainKeys := false, apart := false, laid := [("herald/fixed.bend", laid_herald_fixed_bend), ("herald/rope.sines", laid_herald_rope_sines)], narrowed := true }
def ShapeCutsUptoSaid : Prop := shapeCutsUptoRow.holds Tryd.pinned (OpenSpec.upto shapeCutsSpec)

end Rows
end Go.Proofs.YtakiimjldccgcabDoor
