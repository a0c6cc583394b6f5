/-
  No cell of these rows narrows 'for every input' (looked for: loops, veiled, ifaces, maps, wideKeys, modest, calm, conditions, laid).
  DERIVED. THE GIVEN ROWS OF THIS SEAT. 6 by the template 'for every input the law returns true; each argument reads behind the call as it read before'; 0 by the template 'total and deterministic' (their statements: YtjffiojjjmecgaaTotals.lean).
  GIVEN WITH THE SEED: the statements are not yours to turn. If you find one false, say at which input.
  Laid BY PROGRAM, IN A SANDBOX (cutbox-rows.mjs): the forced cells as the released guide's own fill.sh prints them over the translation 28c96d56ac0a29fc… (all of the seat's roots in one cut). By AI agents, Wed Nov 11 2026. No macro, syntax, notation, axiom, sorry.
-/
import Derived.Test.YtjffiojjjmecgaaChecked
import GoSem.Claim
import GoSem.ClaimJoined
import GoSem.ClaimMapViews
import Derived.JoinedTies
import Derived.KernelRfl
namespace Go.Proofs.Ytjffiojjjmecgaa
/- THE CELL 'sum', in the pinned program and in every row, IS THE sha256 OF THE DUMP (.gsa) THAT YtjffiojjjmecgaaProg.lean LOADS. Nothing in Lean hashes anything: it is a label: what it is worth is what the hold of that sum in a sandbox is worth. -/
noncomputable def Try.pinned : Pinned := { name := "ytjffiojjjmecgaa", sum := "28c96d56ac0a29fc2b0cdcdc908ec0edd6470a98f173476bba7c2c19782cfd82", checked := Try.checked }
namespace Rows
def none {H : Type} : Left H := { results := [], args := [] }

/-- 'heraldlaw08.VecDots': WHATEVER THE INPUT: true; the input reads as it did. -/
def vecDotsSpec : ChangeSpec := { name := "vecDots", fn := fun _ => fun
  | [d1, d2] => { results := [.lit (.bool true)], args := [d1, d2] }
  | _ => none }
def vecDotsRow : OpenClaim := { program := "ytjffiojjjmecgaa", sum := "28c96d56ac0a29fc2b0cdcdc908ec0edd6470a98f173476bba7c2c19782cfd82", func := "herald/heraldlaw08.VecDots", spec := "vecDots", apart := false }
def VecDotsSaid : Prop := vecDotsRow.holds Try.pinned (OpenSpec.ofChange vecDotsSpec)

/-- ITS FALSE NEIGHBOUR: 'it returns false'. Refute it at one input. -/
def vecDotsWrong : ChangeSpec := { name := "vecDots", fn := fun _ => fun
  | [d1, d2] => { results := [.lit (.bool false)], args := [d1, d2] }
  | _ => none }
def VecDotsWrongFalsely : Prop := vecDotsRow.holds Try.pinned (OpenSpec.ofChange vecDotsWrong)

/-- 'heraldlaw08.VecTimes': WHATEVER THE INPUT: true; the input reads as it did. -/
def vecTimesSpec : ChangeSpec := { name := "vecTimes", fn := fun _ => fun
  | [d1, d2] => { results := [.lit (.bool true)], args := [d1, d2] }
  | _ => none }
def vecTimesRow : OpenClaim := { program := "ytjffiojjjmecgaa", sum := "28c96d56ac0a29fc2b0cdcdc908ec0edd6470a98f173476bba7c2c19782cfd82", func := "herald/heraldlaw08.VecTimes", spec := "vecTimes", unfollowed := true, recurses := true, apart := false }
def VecTimesSaid : Prop := vecTimesRow.holds Try.pinned (OpenSpec.ofChange vecTimesSpec)

/-- ITS FALSE NEIGHBOUR: 'it returns false'. Refute it at one input. -/
def vecTimesWrong : ChangeSpec := { name := "vecTimes", fn := fun _ => fun
  | [d1, d2] => { results := [.lit (.bool false)], args := [d1, d2] }
  | _ => none }
def VecTimesWrongFalsely : Prop := vecTimesRow.holds Try.pinned (OpenSpec.ofChange vecTimesWrong)

/-- 'heraldlaw08.VecRows': WHATEVER THE INPUT: true; the input reads as it did. -/
def vecRowsSpec : ChangeSpec := { name := "vecRows", fn := fun _ => fun
  | [d1, d2] => { results := [.lit (.bool true)], args := [d1, d2] }
  | _ => none }
def vecRowsRow : OpenClaim := { program := "ytjffiojjjmecgaa", sum := "28c96d56ac0a29fc2b0cdcdc908ec0edd6470a98f173476bba7c2c19782cfd82", func := "herald/heraldlaw08.VecRows", spec := "vecRows", apart := false }
def VecRowsSaid : Prop := vecRowsRow.holds Try.pinned (OpenSpec.ofChange vecRowsSpec)

/-- ITS FALSE NEIGHBOUR: 'it returns false'. Refute it at one input. -/
def vecRowsWrong : ChangeSpec := { name := "vecRows", fn := fun _ => fun
  | [d1, d2] => { results := [.lit (.bool false)], args := [d1, d2] }
  | _ => none }
def VecRowsWrongFalsely : Prop := vecRowsRow.holds Try.pinned (OpenSpec.ofChange vecRowsWrong)

/-- 'heraldlaw08.VecScales': WHATEVER THE INPUT: true; the input reads as it did. -/
def vecScalesSpec : ChangeSpec := { name := "vecScales", fn := fun _ => fun
  | [d1, d2, d3] => { results := [.lit (.bool true)], args := [d1, d2, d3] }
  | _ => none }
def vecScalesRow : OpenClaim := { program := "ytjffiojjjmecgaa", sum := "28c96d56ac0a29fc2b0cdcdc908ec0edd6470a98f173476bba7c2c19782cfd82", func := "herald/heraldlaw08.VecScales", spec := "vecScales", unfollowed := true, recurses := true, apart := false }
def VecScalesSaid : Prop := vecScalesRow.holds Try.pinned (OpenSpec.ofChange vecScalesSpec)

/-- ITS FALSE NEIGHBOUR: 'it returns false'. Refute it at one input. -/
def vecScalesWrong : ChangeSpec := { name := "vecScales", fn := fun _ => fun
  | [d1, d2, d3] => { results := [.lit (.bool false)], args := [d1, d2, d3] }
  | _ => none }
def VecScalesWrongFalsely : Prop := vecScalesRow.holds Try.pinned (OpenSpec.ofChange vecScalesWrong)

/-- 'heraldlaw08.VecWidens': WHATEVER THE INPUT: true; the input reads as it did. -/
def vecWidensSpec : ChangeSpec := { name := "vecWidens", fn := fun _ => fun
  | [d1, d2] => { results := [.lit (.bool true)], args := [d1, d2] }
  | _ => none }
def vecWidensRow : OpenClaim := { program := "ytjffiojjjmecgaa", sum := "28c96d56ac0a29fc2b0cdcdc908ec0edd6470a98f173476bba7c2c19782cfd82", func := "herald/heraldlaw08.VecWidens", spec := "vecWidens", unfollowed := true, recurses := true, apart := false }
def VecWidensSaid : Prop := vecWidensRow.holds Try.pinned (OpenSpec.ofChange vecWidensSpec)

/-- ITS FALSE NEIGHBOUR: 'it returns false'. Refute it at one input. -/
def vecWidensWrong : ChangeSpec := { name := "vecWidens", fn := fun _ => fun
  | [d1, d2] => { results := [.lit (.bool false)], args := [d1, d2] }
  | _ => none }
def VecWidensWrongFalsely : Prop := vecWidensRow.holds Try.pinned (OpenSpec.ofChange vecWidensWrong)

/-- 'heraldlaw08.VecBatches': WHATEVER THE INPUT: true; the input reads as it did. -/
def vecBatchesSpec : ChangeSpec := { name := "vecBatches", fn := fun _ => fun
  | [d1, d2] => { results := [.lit (.bool true)], args := [d1, d2] }
  | _ => none }
def vecBatchesRow : OpenClaim := { program := "ytjffiojjjmecgaa", sum := "28c96d56ac0a29fc2b0cdcdc908ec0edd6470a98f173476bba7c2c19782cfd82", func := "herald/heraldlaw08.VecBatches", spec := "vecBatches", unfollowed := true, recurses := true, apart := false }
def VecBatchesSaid : Prop := vecBatchesRow.holds Try.pinned (OpenSpec.ofChange vecBatchesSpec)

/-- ITS FALSE NEIGHBOUR: 'it returns false'. Refute it at one input. -/
def vecBatchesWrong : ChangeSpec := { name := "vecBatches", fn := fun _ => fun
  | [d1, d2] => { results := [.lit (.bool false)], args := [d1, d2] }
  | _ => none }
def VecBatchesWrongFalsely : Prop := vecBatchesRow.holds Try.pinned (OpenSpec.ofChange vecBatchesWrong)

/- THE SECOND FORM. 'bulk': how many values and letters a reading holds, each counted each time it is reached (what is shared counts as often as it is met; a slice's spare places count too). A statement '..UptoSaid' is the law's where the arguments, and the package variables that the reading takes, are together of bulk at most 1048576: NARROWER than '..Said'. Prove '..Said' where nothing that the law and all that it calls make is longer than what came in: it says more and counts as full. Else prove '..UptoSaid'. A law counts once. -/
mutual
def uptoBulk {H : Type} : DataW H → Nat
  | .lit (.string bytes) => bytes.length + 1
  | .lit _ => 1
  | .nil => 1
  | .ptr d => uptoBulk d + 1
  | .slice elems spare => uptoBulkAll elems + uptoBulkAll spare + 1
  | .agg parts => uptoBulkAll parts + 1
  | .iface _ d => uptoBulk d + 1
  | .map entries => uptoBulkEntries entries + 1
  | .held _ => 1
def uptoBulkAll {H : Type} : List (DataW H) → Nat
  | [] => 0
  | d :: r => uptoBulk d + uptoBulkAll r
def uptoBulkEntries {H : Type} : List (Lit × DataW H) → Nat
  | [] => 0
  | x :: r => uptoBulkEntry x + uptoBulkEntries r
def uptoBulkEntry {H : Type} : Lit × DataW H → Nat
  | (.string bytes, d) => bytes.length + uptoBulk d + 1
  | (_, d) => uptoBulk d + 1
 end
def uptoSmall : (H : Type) → List (DataW H) → Bool := fun _ ds => decide (uptoBulkAll ds ≤ 1048576)
def OpenSpec.upto (s : _root_.Go.ChangeSpec) : _root_.Go.OpenSpec := { _root_.Go.OpenSpec.ofChange s with cond := some uptoSmall }

/-- 'heraldlaw08.VecDots', WHERE WHAT IT READS IS OF BULK AT MOST 1048576: true; the input reads as it did. -/
def vecDotsUptoRow : OpenClaim := { program := "ytjffiojjjmecgaa", sum := "28c96d56ac0a29fc2b0cdcdc908ec0edd6470a98f173476bba7c2c19782cfd82", func := "herald/heraldlaw08.VecDots", spec := "vecDots", apart := false, narrowed := true }
def VecDotsUptoSaid : Prop := vecDotsUptoRow.holds Try.pinned (OpenSpec.upto vecDotsSpec)

/-- 'heraldlaw08.VecTimes', WHERE WHAT IT READS IS OF BULK AT MOST 1048576: true; the input reads as it did. -/
def vecTimesUptoRow : OpenClaim := { program := "ytjffiojjjmecgaa", sum := "28c96d56ac0a29fc2b0cdcdc908ec0edd6470a98f173476bba7c2c19782cfd82", func := "herald/heraldlaw08.VecTimes", spec := "vecTimes", unfollowed := true, recurses := true, apart := false, narrowed := true }
def VecTimesUptoSaid : Prop := vecTimesUptoRow.holds Try.pinned (OpenSpec.upto vecTimesSpec)

/-- 'heraldlaw08.VecRows', WHERE WHAT IT READS IS OF BULK AT MOST 1048576: true; the input reads as it did. -/
def vecRowsUptoRow : OpenClaim := { program := "ytjffiojjjmecgaa", sum := "28c96d56ac0a29fc2b0cdcdc908ec0edd6470a98f173476bba7c2c19782cfd82", func := "herald/heraldlaw08.VecRows", spec := "vecRows", apart := false, narrowed := true }
def VecRowsUptoSaid : Prop := vecRowsUptoRow.holds Try.pinned (OpenSpec.upto vecRowsSpec)

/-- 'heraldlaw08.VecScales', WHERE WHAT IT READS IS OF BULK AT MOST 1048576: true; the input reads as it did. -/
def vecScalesUptoRow : OpenClaim := { program := "ytjffiojjjmecgaa", sum := "28c96d56ac0a29fc2b0cdcdc908ec0edd6470a98f173476bba7c2c19782cfd82", func := "herald/heraldlaw08.VecScales", spec := "vecScales", unfollowed := true, recurses := true, apart := false, narrowed := true }
def VecScalesUptoSaid : Prop := vecScalesUptoRow.holds Try.pinned (OpenSpec.upto vecScalesSpec)

/-- 'heraldlaw08.VecWidens', WHERE WHAT IT READS IS OF BULK AT MOST 1048576: true; the input reads as it did. -/
def vecWidensUptoRow : OpenClaim := { program := "ytjffiojjjmecgaa", sum := "28c96d56ac0a29fc2b0cdcdc908ec0edd6470a98f173476bba7c2c19782cfd82", func := "herald/heraldlaw08.VecWidens", spec := "vecWidens", unfollowed := true, recurses := true, apart := false, narrowed := true }
def VecWidensUptoSaid : Prop := vecWidensUptoRow.holds Try.pinned (OpenSpec.upto vecWidensSpec)

/-- 'heraldlaw08.VecBatches', WHERE WHAT IT READS IS OF BULK AT MOST 1048576: true; the input reads as it did. -/
def vecBatchesUptoRow : OpenClaim := { program := "ytjffiojjjmecgaa", sum := "28c96d56ac0a29fc2b0cdcdc908ec0edd6470a98f173476bba7c2c19782cfd82", func := "herald/heraldlaw08.VecBatches", spec := "vecBatches", unfollowed := true, recurses := true, apart := false, narrowed := true }
def VecBatchesUptoSaid : Prop := vecBatchesUptoRow.holds Try.pinned (OpenSpec.upto vecBatchesSpec)

end Rows
end Go.Proofs.Ytjffiojjjmecgaa
