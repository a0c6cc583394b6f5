/-
  No cell of these rows narrows 'for every input' (looked for: loops, veiled, ifaces, maps, wideKeys, modest, calm, conditions, laid).
  DERIVED. THE GIVEN ROWS OF THIS SEAT. 4 by the template 'for every input the law returns true; each argument reads behind the call as it read before'; 0 by the template 'total and deterministic' (their statements: YtlepdogfgpeogaaTotals.lean).
  GIVEN WITH THE SEED: the statements are not yours to turn. If you find one false, say at which input.
  Laid BY PROGRAM, IN A SANDBOX (cutbox-rows.mjs): the forced cells as the released guide's own fill.sh prints them over the translation 22dbae9876afd9cf… (all of the seat's roots in one cut). By AI agents, Wed Nov 11 2026. No macro, syntax, notation, axiom, sorry.
-/
import Derived.Test.YtlepdogfgpeogaaChecked
import GoSem.Claim
import GoSem.ClaimJoined
import GoSem.ClaimMapViews
import Derived.JoinedTies
import Derived.KernelRfl
namespace Go.Proofs.Ytlepdogfgpeogaa
/- THE CELL 'sum', in the pinned program and in every row, IS THE sha256 OF THE DUMP (.gsa) THAT YtlepdogfgpeogaaProg.lean LOADS. Nothing in Lean hashes anything: it is a label: what it is worth is what the hold of that sum in a sandbox is worth. -/
noncomputable def Try.pinned : Pinned := { name := "ytlepdogfgpeogaa", sum := "22dbae9876afd9cf6528b9f5e664bd0408a4356349855ef4e83b9346c0c679fc", checked := Try.checked }
namespace Rows
def none {H : Type} : Left H := { results := [], args := [] }

/-- 'heraldlaw08.VecMemory': WHATEVER THE INPUT: true; the input reads as it did. -/
def vecMemorySpec : ChangeSpec := { name := "vecMemory", fn := fun _ => fun
  | [d1, d2, d3] => { results := [.lit (.bool true)], args := [d1, d2, d3] }
  | _ => none }
def vecMemoryRow : OpenClaim := { program := "ytlepdogfgpeogaa", sum := "22dbae9876afd9cf6528b9f5e664bd0408a4356349855ef4e83b9346c0c679fc", func := "herald/heraldlaw08.VecMemory", spec := "vecMemory", unfollowed := true, recurses := true, apart := false }
def VecMemorySaid : Prop := vecMemoryRow.holds Try.pinned (OpenSpec.ofChange vecMemorySpec)

/-- ITS FALSE NEIGHBOUR: 'it returns false'. Refute it at one input. -/
def vecMemoryWrong : ChangeSpec := { name := "vecMemory", fn := fun _ => fun
  | [d1, d2, d3] => { results := [.lit (.bool false)], args := [d1, d2, d3] }
  | _ => none }
def VecMemoryWrongFalsely : Prop := vecMemoryRow.holds Try.pinned (OpenSpec.ofChange vecMemoryWrong)

/-- 'heraldlaw08.VecPacks': WHATEVER THE INPUT: true; the input reads as it did. -/
def vecPacksSpec : ChangeSpec := { name := "vecPacks", fn := fun _ => fun
  | [d1, d2] => { results := [.lit (.bool true)], args := [d1, d2] }
  | _ => none }
def vecPacksRow : OpenClaim := { program := "ytlepdogfgpeogaa", sum := "22dbae9876afd9cf6528b9f5e664bd0408a4356349855ef4e83b9346c0c679fc", func := "herald/heraldlaw08.VecPacks", spec := "vecPacks", apart := false }
def VecPacksSaid : Prop := vecPacksRow.holds Try.pinned (OpenSpec.ofChange vecPacksSpec)

/-- ITS FALSE NEIGHBOUR: 'it returns false'. Refute it at one input. -/
def vecPacksWrong : ChangeSpec := { name := "vecPacks", fn := fun _ => fun
  | [d1, d2] => { results := [.lit (.bool false)], args := [d1, d2] }
  | _ => none }
def VecPacksWrongFalsely : Prop := vecPacksRow.holds Try.pinned (OpenSpec.ofChange vecPacksWrong)

/-- 'heraldlaw08.VecUnpacks': WHATEVER THE INPUT: true; the input reads as it did. -/
def vecUnpacksSpec : ChangeSpec := { name := "vecUnpacks", fn := fun _ => fun
  | [d1, d2, d3] => { results := [.lit (.bool true)], args := [d1, d2, d3] }
  | _ => none }
def vecUnpacksRow : OpenClaim := { program := "ytlepdogfgpeogaa", sum := "22dbae9876afd9cf6528b9f5e664bd0408a4356349855ef4e83b9346c0c679fc", func := "herald/heraldlaw08.VecUnpacks", spec := "vecUnpacks", apart := false }
def VecUnpacksSaid : Prop := vecUnpacksRow.holds Try.pinned (OpenSpec.ofChange vecUnpacksSpec)

/-- ITS FALSE NEIGHBOUR: 'it returns false'. Refute it at one input. -/
def vecUnpacksWrong : ChangeSpec := { name := "vecUnpacks", fn := fun _ => fun
  | [d1, d2, d3] => { results := [.lit (.bool false)], args := [d1, d2, d3] }
  | _ => none }
def VecUnpacksWrongFalsely : Prop := vecUnpacksRow.holds Try.pinned (OpenSpec.ofChange vecUnpacksWrong)

/-- 'heraldlaw08.VecNears': WHATEVER THE INPUT: true; the input reads as it did. -/
def vecNearsSpec : ChangeSpec := { name := "vecNears", fn := fun _ => fun
  | [d1, d2] => { results := [.lit (.bool true)], args := [d1, d2] }
  | _ => none }
def vecNearsRow : OpenClaim := { program := "ytlepdogfgpeogaa", sum := "22dbae9876afd9cf6528b9f5e664bd0408a4356349855ef4e83b9346c0c679fc", func := "herald/heraldlaw08.VecNears", spec := "vecNears", apart := false }
def VecNearsSaid : Prop := vecNearsRow.holds Try.pinned (OpenSpec.ofChange vecNearsSpec)

/-- ITS FALSE NEIGHBOUR: 'it returns false'. Refute it at one input. -/
def vecNearsWrong : ChangeSpec := { name := "vecNears", fn := fun _ => fun
  | [d1, d2] => { results := [.lit (.bool false)], args := [d1, d2] }
  | _ => none }
def VecNearsWrongFalsely : Prop := vecNearsRow.holds Try.pinned (OpenSpec.ofChange vecNearsWrong)

/- THE SECOND FORM. 'bulk': how many values and letters a reading holds, each counted each time it is reached (what is shared counts as often as it is met; a slice's spare places count too). A statement '..UptoSaid' is the law's where the arguments, and the package variables that the reading takes, are together of bulk at most 1048576: NARROWER than '..Said'. Prove '..Said' where nothing that the law and all that it calls make is longer than what came in: it says more and counts as full. Else prove '..UptoSaid'. A law counts once. -/
mutual
def uptoBulk {H : Type} : DataW H → Nat
  | .lit (.string bytes) => bytes.length + 1
  | .lit _ => 1
  | .nil => 1
  | .ptr d => uptoBulk d + 1
  | .slice elems spare => uptoBulkAll elems + uptoBulkAll spare + 1
  | .agg parts => uptoBulkAll parts + 1
  | .iface _ d => uptoBulk d + 1
  | .map entries => uptoBulkEntries entries + 1
  | .held _ => 1
def uptoBulkAll {H : Type} : List (DataW H) → Nat
  | [] => 0
  | d :: r => uptoBulk d + uptoBulkAll r
def uptoBulkEntries {H : Type} : List (Lit × DataW H) → Nat
  | [] => 0
  | x :: r => uptoBulkEntry x + uptoBulkEntries r
def uptoBulkEntry {H : Type} : Lit × DataW H → Nat
  | (.string bytes, d) => bytes.length + uptoBulk d + 1
  | (_, d) => uptoBulk d + 1
 end
def uptoSmall : (H : Type) → List (DataW H) → Bool := fun _ ds => decide (uptoBulkAll ds ≤ 1048576)
def OpenSpec.upto (s : _root_.Go.ChangeSpec) : _root_.Go.OpenSpec := { _root_.Go.OpenSpec.ofChange s with cond := some uptoSmall }

/-- 'heraldlaw08.VecMemory', WHERE WHAT IT READS IS OF BULK AT MOST 1048576: true; the input reads as it did. -/
def vecMemoryUptoRow : OpenClaim := { program := "ytlepdogfgpeogaa", sum := "22dbae9876afd9cf6528b9f5e664bd0408a4356349855ef4e83b9346c0c679fc", func := "herald/heraldlaw08.VecMemory", spec := "vecMemory", unfollowed := true, recurses := true, apart := false, narrowed := true }
def VecMemoryUptoSaid : Prop := vecMemoryUptoRow.holds Try.pinned (OpenSpec.upto vecMemorySpec)

/-- 'heraldlaw08.VecPacks', WHERE WHAT IT READS IS OF BULK AT MOST 1048576: true; the input reads as it did. -/
def vecPacksUptoRow : OpenClaim := { program := "ytlepdogfgpeogaa", sum := "22dbae9876afd9cf6528b9f5e664bd0408a4356349855ef4e83b9346c0c679fc", func := "herald/heraldlaw08.VecPacks", spec := "vecPacks", apart := false, narrowed := true }
def VecPacksUptoSaid : Prop := vecPacksUptoRow.holds Try.pinned (OpenSpec.upto vecPacksSpec)

/-- 'heraldlaw08.VecUnpacks', WHERE WHAT IT READS IS OF BULK AT MOST 1048576: true; the input reads as it did. -/
def vecUnpacksUptoRow : OpenClaim := { program := "ytlepdogfgpeogaa", sum := "22dbae9876afd9cf6528b9f5e664bd0408a4356349855ef4e83b9346c0c679fc", func := "herald/heraldlaw08.VecUnpacks", spec := "vecUnpacks", apart := false, narrowed := true }
def VecUnpacksUptoSaid : Prop := vecUnpacksUptoRow.holds Try.pinned (OpenSpec.upto vecUnpacksSpec)

/-- 'heraldlaw08.VecNears', WHERE WHAT IT READS IS OF BULK AT MOST 1048576: true; the input reads as it did. -/
def vecNearsUptoRow : OpenClaim := { program := "ytlepdogfgpeogaa", sum := "22dbae9876afd9cf6528b9f5e664bd0408a4356349855ef4e83b9346c0c679fc", func := "herald/heraldlaw08.VecNears", spec := "vecNears", apart := false, narrowed := true }
def VecNearsUptoSaid : Prop := vecNearsUptoRow.holds Try.pinned (OpenSpec.upto vecNearsSpec)

end Rows
end Go.Proofs.Ytlepdogfgpeogaa
