/-
  NARROWER THAN 'FOR EVERY INPUT', by the rows' own cells (each row's printed sentence says how): SingleParts: laid · SingleNear: laid · SingleCompares: laid · SingleAdds: laid · SingleMuls: laid · SingleBack: laid.
  DERIVED. THE GIVEN ROWS OF THIS SEAT. 6 by the template 'for every input the law returns true; each argument reads behind the call as it read before'; 0 by the template 'total and deterministic' (their statements: YtagbjlkpmjbfnaaDoorTotals.lean).
  GIVEN WITH THE SEED: the statements are not yours to turn. If you find one false, say at which input.
  Laid BY PROGRAM, IN A SANDBOX (cutbox-rows.mjs): the forced cells as the released guide's own fill.sh prints them over the translation 3982cf55a8a6adda… (all of the seat's roots in one cut). By AI agents, Wed Nov 11 2026. No macro, syntax, notation, axiom, sorry.
-/
import Derived.Test.YtagbjlkpmjbfnaaDoorChecked
import GoSem.Claim
import GoSem.ClaimJoined
import GoSem.ClaimMapViews
import Derived.JoinedTies
import Derived.KernelRfl
namespace Go.Proofs.YtagbjlkpmjbfnaaDoor
/- THE CELL 'sum', in the pinned program and in every row, IS THE sha256 OF THE DUMP (.gsa) THAT YtagbjlkpmjbfnaaDoorProg.lean LOADS. Nothing in Lean hashes anything: it is a label: what it is worth is what the hold of that sum in a sandbox is worth. -/
noncomputable def Tryd.pinned : Pinned := { name := "ytagbjlkpmjbfnaadoor", sum := "3982cf55a8a6adda036e5b84acddd9eaaa85c6256a74de47112930a1d73741c3", checked := Tryd.checked }
namespace Rows
def none {H : Type} : Left H := { results := [], args := [] }

/- WHAT THE LISTED PACKAGE-LEVEL VARIABLES READ AS WHEN THE CALL BEGINS. Each datum BY PROGRAM (the guide's laid-datum.mjs) off the statement by which the dump's own 'gosem.cut.vars' lays the variable. In a bare row this is a premise. The card (YtagbjlkpmjbfnaaDoorCards.lean) ties it to the program's text. -/
def laid_math_bits_deBruijn32tab {H : Type} : DataW H := .agg [.lit (.int .u8 0), .lit (.int .u8 1), .lit (.int .u8 28), .lit (.int .u8 2), .lit (.int .u8 29), .lit (.int .u8 14), .lit (.int .u8 24), .lit (.int .u8 3), .lit (.int .u8 30), .lit (.int .u8 22), .lit (.int .u8 20), .lit (.int .u8 15), .lit (.int .u8 25), .lit (.int .u8 17), .lit (.int .u8 4), .lit (.int .u8 8), .lit (.int .u8 31), .lit (.int .u8 27), .lit (.int .u8 13), .lit (.int .u8 23), .lit (.int .u8 21), .lit (.int .u8 19), .lit (.int .u8 16), .lit (.int .u8 7), .lit (.int .u8 26), .lit (.int .u8 12), .lit (.int .u8 18), .lit (.int .u8 6), .lit (.int .u8 11), .lit (.int .u8 5), .lit (.int .u8 10), .lit (.int .u8 9)]
def laid_herald_single_singles {H : Type} : DataW H := .agg [.lit (.int .i64 8), .lit (.int .i64 23)]

/-- 'heraldlaw03.SingleParts': WHATEVER THE INPUT: true; the input reads as it did. -/
def singlePartsSpec : ChangeSpec := { name := "singleParts", fn := fun _ => fun
  | [d] => { results := [.lit (.bool true)], args := [d] }
  | _ => none }
def singlePartsRow : OpenClaim := { program := "ytagbjlkpmjbfnaadoor", sum := "3982cf55a8a6adda036e5b84acddd9eaaa85c6256a74de47112930a1d73741c3", func := "herald/heraldlaw03.SingleParts", spec := "singleParts", inPlace := ["math.Float32frombits", "math.Float32bits"], named := ["herald/single.singles", "math/bits.deBruijn32tab"], apart := false, laid := [("math/bits.deBruijn32tab", laid_math_bits_deBruijn32tab), ("herald/single.singles", laid_herald_single_singles)] }
def SinglePartsSaid : Prop := singlePartsRow.holds Tryd.pinned (OpenSpec.ofChange singlePartsSpec)

/-- ITS FALSE NEIGHBOUR: 'it returns false'. Refute it at one input. -/
def singlePartsWrong : ChangeSpec := { name := "singleParts", fn := fun _ => fun
  | [d] => { results := [.lit (.bool false)], args := [d] }
  | _ => none }
def SinglePartsWrongFalsely : Prop := singlePartsRow.holds Tryd.pinned (OpenSpec.ofChange singlePartsWrong)

/-- 'heraldlaw03.SingleNear': WHATEVER THE INPUT: true; the input reads as it did. -/
def singleNearSpec : ChangeSpec := { name := "singleNear", fn := fun _ => fun
  | [d1, d2] => { results := [.lit (.bool true)], args := [d1, d2] }
  | _ => none }
def singleNearRow : OpenClaim := { program := "ytagbjlkpmjbfnaadoor", sum := "3982cf55a8a6adda036e5b84acddd9eaaa85c6256a74de47112930a1d73741c3", func := "herald/heraldlaw03.SingleNear", spec := "singleNear", inPlace := ["math.Float32frombits", "math.Float32bits"], named := ["herald/single.singles"], apart := false, laid := [("herald/single.singles", laid_herald_single_singles)] }
def SingleNearSaid : Prop := singleNearRow.holds Tryd.pinned (OpenSpec.ofChange singleNearSpec)

/-- ITS FALSE NEIGHBOUR: 'it returns false'. Refute it at one input. -/
def singleNearWrong : ChangeSpec := { name := "singleNear", fn := fun _ => fun
  | [d1, d2] => { results := [.lit (.bool false)], args := [d1, d2] }
  | _ => none }
def SingleNearWrongFalsely : Prop := singleNearRow.holds Tryd.pinned (OpenSpec.ofChange singleNearWrong)

/-- 'heraldlaw03.SingleCompares': WHATEVER THE INPUT: true; the input reads as it did. -/
def singleComparesSpec : ChangeSpec := { name := "singleCompares", fn := fun _ => fun
  | [d1, d2] => { results := [.lit (.bool true)], args := [d1, d2] }
  | _ => none }
def singleComparesRow : OpenClaim := { program := "ytagbjlkpmjbfnaadoor", sum := "3982cf55a8a6adda036e5b84acddd9eaaa85c6256a74de47112930a1d73741c3", func := "herald/heraldlaw03.SingleCompares", spec := "singleCompares", inPlace := ["math.Float32frombits", "math.Float32bits"], named := ["herald/single.singles"], apart := false, laid := [("herald/single.singles", laid_herald_single_singles)] }
def SingleComparesSaid : Prop := singleComparesRow.holds Tryd.pinned (OpenSpec.ofChange singleComparesSpec)

/-- ITS FALSE NEIGHBOUR: 'it returns false'. Refute it at one input. -/
def singleComparesWrong : ChangeSpec := { name := "singleCompares", fn := fun _ => fun
  | [d1, d2] => { results := [.lit (.bool false)], args := [d1, d2] }
  | _ => none }
def SingleComparesWrongFalsely : Prop := singleComparesRow.holds Tryd.pinned (OpenSpec.ofChange singleComparesWrong)

/-- 'heraldlaw03.SingleAdds': WHATEVER THE INPUT: true; the input reads as it did. -/
def singleAddsSpec : ChangeSpec := { name := "singleAdds", fn := fun _ => fun
  | [d1, d2] => { results := [.lit (.bool true)], args := [d1, d2] }
  | _ => none }
def singleAddsRow : OpenClaim := { program := "ytagbjlkpmjbfnaadoor", sum := "3982cf55a8a6adda036e5b84acddd9eaaa85c6256a74de47112930a1d73741c3", func := "herald/heraldlaw03.SingleAdds", spec := "singleAdds", inPlace := ["math.Float32frombits", "math.Float32bits"], named := ["herald/single.singles"], apart := false, laid := [("herald/single.singles", laid_herald_single_singles)] }
def SingleAddsSaid : Prop := singleAddsRow.holds Tryd.pinned (OpenSpec.ofChange singleAddsSpec)

/-- ITS FALSE NEIGHBOUR: 'it returns false'. Refute it at one input. -/
def singleAddsWrong : ChangeSpec := { name := "singleAdds", fn := fun _ => fun
  | [d1, d2] => { results := [.lit (.bool false)], args := [d1, d2] }
  | _ => none }
def SingleAddsWrongFalsely : Prop := singleAddsRow.holds Tryd.pinned (OpenSpec.ofChange singleAddsWrong)

/-- 'heraldlaw03.SingleMuls': WHATEVER THE INPUT: true; the input reads as it did. -/
def singleMulsSpec : ChangeSpec := { name := "singleMuls", fn := fun _ => fun
  | [d1, d2] => { results := [.lit (.bool true)], args := [d1, d2] }
  | _ => none }
def singleMulsRow : OpenClaim := { program := "ytagbjlkpmjbfnaadoor", sum := "3982cf55a8a6adda036e5b84acddd9eaaa85c6256a74de47112930a1d73741c3", func := "herald/heraldlaw03.SingleMuls", spec := "singleMuls", inPlace := ["math.Float32frombits", "math.Float32bits"], named := ["herald/single.singles"], apart := false, laid := [("herald/single.singles", laid_herald_single_singles)] }
def SingleMulsSaid : Prop := singleMulsRow.holds Tryd.pinned (OpenSpec.ofChange singleMulsSpec)

/-- ITS FALSE NEIGHBOUR: 'it returns false'. Refute it at one input. -/
def singleMulsWrong : ChangeSpec := { name := "singleMuls", fn := fun _ => fun
  | [d1, d2] => { results := [.lit (.bool false)], args := [d1, d2] }
  | _ => none }
def SingleMulsWrongFalsely : Prop := singleMulsRow.holds Tryd.pinned (OpenSpec.ofChange singleMulsWrong)

/-- 'heraldlaw03.SingleBack': WHATEVER THE INPUT: true; the input reads as it did. -/
def singleBackSpec : ChangeSpec := { name := "singleBack", fn := fun _ => fun
  | [d] => { results := [.lit (.bool true)], args := [d] }
  | _ => none }
def singleBackRow : OpenClaim := { program := "ytagbjlkpmjbfnaadoor", sum := "3982cf55a8a6adda036e5b84acddd9eaaa85c6256a74de47112930a1d73741c3", func := "herald/heraldlaw03.SingleBack", spec := "singleBack", inPlace := ["math.Float32frombits", "math.Float32bits"], named := ["herald/single.singles", "math/bits.deBruijn32tab"], apart := false, laid := [("math/bits.deBruijn32tab", laid_math_bits_deBruijn32tab), ("herald/single.singles", laid_herald_single_singles)] }
def SingleBackSaid : Prop := singleBackRow.holds Tryd.pinned (OpenSpec.ofChange singleBackSpec)

/-- ITS FALSE NEIGHBOUR: 'it returns false'. Refute it at one input. -/
def singleBackWrong : ChangeSpec := { name := "singleBack", fn := fun _ => fun
  | [d] => { results := [.lit (.bool false)], args := [d] }
  | _ => none }
def SingleBackWrongFalsely : Prop := singleBackRow.holds Tryd.pinned (OpenSpec.ofChange singleBackWrong)

/- THE SECOND FORM. 'bulk': how many values and letters a reading holds, each counted each time it is reached (what is shared counts as often as it is met; a slice's spare places count too). A statement '..UptoSaid' is the law's where the arguments, and the package variables that the reading takes, are together of bulk at most 1048576: NARROWER than '..Said'. Prove '..Said' where nothing that the law and all that it calls make is longer than what came in: it says more and counts as full. Else prove '..UptoSaid'. A law counts once. -/
mutual
def uptoBulk {H : Type} : DataW H → Nat
  | .lit (.string bytes) => bytes.length + 1
  | .lit _ => 1
  | .nil => 1
  | .ptr d => uptoBulk d + 1
  | .slice elems spare => uptoBulkAll elems + uptoBulkAll spare + 1
  | .agg parts => uptoBulkAll parts + 1
  | .iface _ d => uptoBulk d + 1
  | .map entries => uptoBulkEntries entries + 1
  | .held _ => 1
def uptoBulkAll {H : Type} : List (DataW H) → Nat
  | [] => 0
  | d :: r => uptoBulk d + uptoBulkAll r
def uptoBulkEntries {H : Type} : List (Lit × DataW H) → Nat
  | [] => 0
  | x :: r => uptoBulkEntry x + uptoBulkEntries r
def uptoBulkEntry {H : Type} : Lit × DataW H → Nat
  | (.string bytes, d) => bytes.length + uptoBulk d + 1
  | (_, d) => uptoBulk d + 1
 end
def uptoSmall : (H : Type) → List (DataW H) → Bool := fun _ ds => decide (uptoBulkAll ds ≤ 1048576)
def OpenSpec.upto (s : _root_.Go.ChangeSpec) : _root_.Go.OpenSpec := { _root_.Go.OpenSpec.ofChange s with cond := some uptoSmall }

/-- 'heraldlaw03.SingleParts', WHERE WHAT IT READS IS OF BULK AT MOST 1048576: true; the input reads as it did. -/
def singlePartsUptoRow : OpenClaim := { program := "ytagbjlkpmjbfnaadoor", sum := "3982cf55a8a6adda036e5b84acddd9eaaa85c6256a74de47112930a1d73741c3", func := "herald/heraldlaw03.SingleParts", spec := "singleParts", inPlace := ["math.Float32frombits", "math.Float32bits"], named := ["herald/single.singles", "math/bits.deBruijn32tab"], apart := false, laid := [("math/bits.deBruijn32tab", laid_math_bits_deBruijn32tab), ("herald/single.singles", laid_herald_single_singles)], narrowed := true }
def SinglePartsUptoSaid : Prop := singlePartsUptoRow.holds Tryd.pinned (OpenSpec.upto singlePartsSpec)

/-- 'heraldlaw03.SingleNear', WHERE WHAT IT READS IS OF BULK AT MOST 1048576: true; the input reads as it did. -/
def singleNearUptoRow : OpenClaim := { program := "ytagbjlkpmjbfnaadoor", sum := "3982cf55a8a6adda036e5b84acddd9eaaa85c6256a74de47112930a1d73741c3", func := "herald/heraldlaw03.SingleNear", spec := "singleNear", inPlace := ["math.Float32frombits", "math.Float32bits"], named := ["herald/single.singles"], apart := false, laid := [("herald/single.singles", laid_herald_single_singles)], narrowed := true }
def SingleNearUptoSaid : Prop := singleNearUptoRow.holds Tryd.pinned (OpenSpec.upto singleNearSpec)

/-- 'heraldlaw03.SingleCompares', WHERE WHAT IT READS IS OF BULK AT MOST 1048576: true; the input reads as it did. -/
def singleComparesUptoRow : OpenClaim := { program := "ytagbjlkpmjbfnaadoor", sum := "3982cf55a8a6adda036e5b84acddd9eaaa85c6256a74de47112930a1d73741c3", func := "herald/heraldlaw03.SingleCompares", spec := "singleCompares", inPlace := ["math.Float32frombits", "math.Float32bits"], named := ["herald/single.singles"], apart := false, laid := [("herald/single.singles", laid_herald_single_singles)], narrowed := true }
def SingleComparesUptoSaid : Prop := singleComparesUptoRow.holds Tryd.pinned (OpenSpec.upto singleComparesSpec)

/-- 'heraldlaw03.SingleAdds', WHERE WHAT IT READS IS OF BULK AT MOST 1048576: true; the input reads as it did. -/
def singleAddsUptoRow : OpenClaim := { program := "ytagbjlkpmjbfnaadoor", sum := "3982cf55a8a6adda036e5b84acddd9eaaa85c6256a74de47112930a1d73741c3", func := "herald/heraldlaw03.SingleAdds", spec := "singleAdds", inPlace := ["math.Float32frombits", "math.Float32bits"], named := ["herald/single.singles"], apart := false, laid := [("herald/single.singles", laid_herald_single_singles)], narrowed := true }
def SingleAddsUptoSaid : Prop := singleAddsUptoRow.holds Tryd.pinned (OpenSpec.upto singleAddsSpec)

/-- 'heraldlaw03.SingleMuls', WHERE WHAT IT READS IS OF BULK AT MOST 1048576: true; the input reads as it did. -/
def singleMulsUptoRow : OpenClaim := { program := "ytagbjlkpmjbfnaadoor", sum := "3982cf55a8a6adda036e5b84acddd9eaaa85c6256a74de47112930a1d73741c3", func := "herald/heraldlaw03.SingleMuls", spec := "singleMuls", inPlace := ["math.Float32frombits", "math.Float32bits"], named := ["herald/single.singles"], apart := false, laid := [("herald/single.singles", laid_herald_single_singles)], narrowed := true }
def SingleMulsUptoSaid : Prop := singleMulsUptoRow.holds Tryd.pinned (OpenSpec.upto singleMulsSpec)

/-- 'heraldlaw03.SingleBack', WHERE WHAT IT READS IS OF BULK AT MOST 1048576: true; the input reads as it did. -/
def singleBackUptoRow : OpenClaim := { program := "ytagbjlkpmjbfnaadoor", sum := "3982cf55a8a6adda036e5b84acddd9eaaa85c6256a74de47112930a1d73741c3", func := "herald/heraldlaw03.SingleBack", spec := "singleBack", inPlace := ["math.Float32frombits", "math.Float32bits"], named := ["herald/single.singles", "math/bits.deBruijn32tab"], apart := false, laid := [("math/bits.deBruijn32tab", laid_math_bits_deBruijn32tab), ("herald/single.singles", laid_herald_single_singles)], narrowed := true }
def SingleBackUptoSaid : Prop := singleBackUptoRow.holds Tryd.pinned (OpenSpec.upto singleBackSpec)

end Rows
end Go.Proofs.YtagbjlkpmjbfnaaDoor
