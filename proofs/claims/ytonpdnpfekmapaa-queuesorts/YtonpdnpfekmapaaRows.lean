/-
  No cell of these rows narrows 'for every input' (looked for: loops, veiled, ifaces, maps, wideKeys, modest, calm, conditions, laid).
  DERIVED. THE GIVEN ROWS OF THIS SEAT. 6 by the template 'for every input the law returns true; each argument reads behind the call as it read before'; 0 by the template 'total and deterministic' (their statements: YtonpdnpfekmapaaTotals.lean).
  GIVEN WITH THE SEED: the statements are not yours to turn. If you find one false, say at which input.
  Laid BY PROGRAM, IN A SANDBOX (cutbox-rows.mjs): the forced cells as the released guide's own fill.sh prints them over the translation 5a465ad3499d45c9… (all of the seat's roots in one cut). By AI agents, Wed Nov 11 2026. No macro, syntax, notation, axiom, sorry.
-/
import Derived.Test.YtonpdnpfekmapaaChecked
import GoSem.Claim
import GoSem.ClaimJoined
import GoSem.ClaimMapViews
import Derived.JoinedTies
import Derived.KernelRfl
namespace Go.Proofs.Ytonpdnpfekmapaa
/- THE CELL 'sum', in the pinned program and in every row, IS THE sha256 OF THE DUMP (.gsa) THAT YtonpdnpfekmapaaProg.lean LOADS. Nothing in Lean hashes anything: it is a label: what it is worth is what the hold of that sum in a sandbox is worth. -/
noncomputable def Try.pinned : Pinned := { name := "ytonpdnpfekmapaa", sum := "5a465ad3499d45c9ef882aa2c72349068c8fe0c261c9cfaa1dbb72f9de41c9b2", checked := Try.checked }
namespace Rows
def none {H : Type} : Left H := { results := [], args := [] }

/-- 'heraldlaw06.QueuePlays': WHATEVER THE INPUT: true; the input reads as it did. -/
def queuePlaysSpec : ChangeSpec := { name := "queuePlays", fn := fun _ => fun
  | [d1, d2] => { results := [.lit (.bool true)], args := [d1, d2] }
  | _ => none }
def queuePlaysRow : OpenClaim := { program := "ytonpdnpfekmapaa", sum := "5a465ad3499d45c9ef882aa2c72349068c8fe0c261c9cfaa1dbb72f9de41c9b2", func := "herald/heraldlaw06.QueuePlays", spec := "queuePlays", inPlace := ["slices.overlaps[*herald/queue.element[int64, string]]", "slices.overlaps[[]*herald/queue.element[int64, string]]"], unfollowed := true, recurses := true, apart := false }
def QueuePlaysSaid : Prop := queuePlaysRow.holds Try.pinned (OpenSpec.ofChange queuePlaysSpec)

/-- ITS FALSE NEIGHBOUR: 'it returns false'. Refute it at one input. -/
def queuePlaysWrong : ChangeSpec := { name := "queuePlays", fn := fun _ => fun
  | [d1, d2] => { results := [.lit (.bool false)], args := [d1, d2] }
  | _ => none }
def QueuePlaysWrongFalsely : Prop := queuePlaysRow.holds Try.pinned (OpenSpec.ofChange queuePlaysWrong)

/-- 'heraldlaw06.QueueTwo': WHATEVER THE INPUT: true; the input reads as it did. -/
def queueTwoSpec : ChangeSpec := { name := "queueTwo", fn := fun _ => fun
  | [d1, d2, d3] => { results := [.lit (.bool true)], args := [d1, d2, d3] }
  | _ => none }
def queueTwoRow : OpenClaim := { program := "ytonpdnpfekmapaa", sum := "5a465ad3499d45c9ef882aa2c72349068c8fe0c261c9cfaa1dbb72f9de41c9b2", func := "herald/heraldlaw06.QueueTwo", spec := "queueTwo", inPlace := ["slices.overlaps[*herald/queue.element[int64, string]]", "slices.overlaps[[]*herald/queue.element[int64, string]]"], unfollowed := true, recurses := true, apart := false }
def QueueTwoSaid : Prop := queueTwoRow.holds Try.pinned (OpenSpec.ofChange queueTwoSpec)

/-- ITS FALSE NEIGHBOUR: 'it returns false'. Refute it at one input. -/
def queueTwoWrong : ChangeSpec := { name := "queueTwo", fn := fun _ => fun
  | [d1, d2, d3] => { results := [.lit (.bool false)], args := [d1, d2, d3] }
  | _ => none }
def QueueTwoWrongFalsely : Prop := queueTwoRow.holds Try.pinned (OpenSpec.ofChange queueTwoWrong)

/-- 'heraldlaw06.QueueSorts': WHATEVER THE INPUT: true; the input reads as it did. -/
def queueSortsSpec : ChangeSpec := { name := "queueSorts", fn := fun _ => fun
  | [d1, d2] => { results := [.lit (.bool true)], args := [d1, d2] }
  | _ => none }
def queueSortsRow : OpenClaim := { program := "ytonpdnpfekmapaa", sum := "5a465ad3499d45c9ef882aa2c72349068c8fe0c261c9cfaa1dbb72f9de41c9b2", func := "herald/heraldlaw06.QueueSorts", spec := "queueSorts", inPlace := ["slices.overlaps[*herald/queue.element[int64, string]]", "slices.overlaps[[]*herald/queue.element[int64, string]]", "slices.overlaps[*herald/queue.element[string, int]]", "slices.overlaps[[]*herald/queue.element[string, int]]"], unfollowed := true, recurses := true, apart := false }
def QueueSortsSaid : Prop := queueSortsRow.holds Try.pinned (OpenSpec.ofChange queueSortsSpec)

/-- ITS FALSE NEIGHBOUR: 'it returns false'. Refute it at one input. -/
def queueSortsWrong : ChangeSpec := { name := "queueSorts", fn := fun _ => fun
  | [d1, d2] => { results := [.lit (.bool false)], args := [d1, d2] }
  | _ => none }
def QueueSortsWrongFalsely : Prop := queueSortsRow.holds Try.pinned (OpenSpec.ofChange queueSortsWrong)

/-- 'heraldlaw06.QueueWalk': WHATEVER THE INPUT: true; the input reads as it did. -/
def queueWalkSpec : ChangeSpec := { name := "queueWalk", fn := fun _ => fun
  | [d1, d2] => { results := [.lit (.bool true)], args := [d1, d2] }
  | _ => none }
def queueWalkRow : OpenClaim := { program := "ytonpdnpfekmapaa", sum := "5a465ad3499d45c9ef882aa2c72349068c8fe0c261c9cfaa1dbb72f9de41c9b2", func := "herald/heraldlaw06.QueueWalk", spec := "queueWalk", inPlace := ["slices.overlaps[*herald/queue.element[int64, string]]", "slices.overlaps[[]*herald/queue.element[int64, string]]", "slices.overlaps[*herald/queue.element[int64, int]]", "slices.overlaps[[]*herald/queue.element[int64, int]]"], unfollowed := true, recurses := true, apart := false }
def QueueWalkSaid : Prop := queueWalkRow.holds Try.pinned (OpenSpec.ofChange queueWalkSpec)

/-- ITS FALSE NEIGHBOUR: 'it returns false'. Refute it at one input. -/
def queueWalkWrong : ChangeSpec := { name := "queueWalk", fn := fun _ => fun
  | [d1, d2] => { results := [.lit (.bool false)], args := [d1, d2] }
  | _ => none }
def QueueWalkWrongFalsely : Prop := queueWalkRow.holds Try.pinned (OpenSpec.ofChange queueWalkWrong)

/-- 'heraldlaw06.QueueTickets': WHATEVER THE INPUT: true; the input reads as it did. -/
def queueTicketsSpec : ChangeSpec := { name := "queueTickets", fn := fun _ => fun
  | [d1, d2] => { results := [.lit (.bool true)], args := [d1, d2] }
  | _ => none }
def queueTicketsRow : OpenClaim := { program := "ytonpdnpfekmapaa", sum := "5a465ad3499d45c9ef882aa2c72349068c8fe0c261c9cfaa1dbb72f9de41c9b2", func := "herald/heraldlaw06.QueueTickets", spec := "queueTickets", inPlace := ["slices.overlaps[*herald/queue.element[int64, string]]", "slices.overlaps[[]*herald/queue.element[int64, string]]"], unfollowed := true, recurses := true, apart := false }
def QueueTicketsSaid : Prop := queueTicketsRow.holds Try.pinned (OpenSpec.ofChange queueTicketsSpec)

/-- ITS FALSE NEIGHBOUR: 'it returns false'. Refute it at one input. -/
def queueTicketsWrong : ChangeSpec := { name := "queueTickets", fn := fun _ => fun
  | [d1, d2] => { results := [.lit (.bool false)], args := [d1, d2] }
  | _ => none }
def QueueTicketsWrongFalsely : Prop := queueTicketsRow.holds Try.pinned (OpenSpec.ofChange queueTicketsWrong)

/-- 'heraldlaw06.QueueMerges': WHATEVER THE INPUT: true; the input reads as it did. -/
def queueMergesSpec : ChangeSpec := { name := "queueMerges", fn := fun _ => fun
  | [d1, d2] => { results := [.lit (.bool true)], args := [d1, d2] }
  | _ => none }
def queueMergesRow : OpenClaim := { program := "ytonpdnpfekmapaa", sum := "5a465ad3499d45c9ef882aa2c72349068c8fe0c261c9cfaa1dbb72f9de41c9b2", func := "herald/heraldlaw06.QueueMerges", spec := "queueMerges", inPlace := ["slices.overlaps[*herald/queue.element[int64, string]]", "slices.overlaps[[]*herald/queue.element[int64, string]]", "slices.overlaps[*herald/queue.element[int64, int]]", "slices.overlaps[[]*herald/queue.element[int64, int]]"], unfollowed := true, recurses := true, apart := false }
def QueueMergesSaid : Prop := queueMergesRow.holds Try.pinned (OpenSpec.ofChange queueMergesSpec)

/-- ITS FALSE NEIGHBOUR: 'it returns false'. Refute it at one input. -/
def queueMergesWrong : ChangeSpec := { name := "queueMerges", fn := fun _ => fun
  | [d1, d2] => { results := [.lit (.bool false)], args := [d1, d2] }
  | _ => none }
def QueueMergesWrongFalsely : Prop := queueMergesRow.holds Try.pinned (OpenSpec.ofChange queueMergesWrong)

/- THE SECOND FORM. 'bulk': how many values and letters a reading holds, each counted each time it is reached (what is shared counts as often as it is met; a slice's spare places count too). A statement '..UptoSaid' is the law's where the arguments, and the package variables that the reading takes, are together of bulk at most 1048576: NARROWER than '..Said'. Prove '..Said' where nothing that the law and all that it calls make is longer than what came in: it says more and counts as full. Else prove '..UptoSaid'. A law counts once. -/
mutual
def uptoBulk {H : Type} : DataW H → Nat
  | .lit (.string bytes) => bytes.length + 1
  | .lit _ => 1
  | .nil => 1
  | .ptr d => uptoBulk d + 1
  | .slice elems spare => uptoBulkAll elems + uptoBulkAll spare + 1
  | .agg parts => uptoBulkAll parts + 1
  | .iface _ d => uptoBulk d + 1
  | .map entries => uptoBulkEntries entries + 1
  | .held _ => 1
def uptoBulkAll {H : Type} : List (DataW H) → Nat
  | [] => 0
  | d :: r => uptoBulk d + uptoBulkAll r
def uptoBulkEntries {H : Type} : List (Lit × DataW H) → Nat
  | [] => 0
  | x :: r => uptoBulkEntry x + uptoBulkEntries r
def uptoBulkEntry {H : Type} : Lit × DataW H → Nat
  | (.string bytes, d) => bytes.length + uptoBulk d + 1
  | (_, d) => uptoBulk d + 1
 end
def uptoSmall : (H : Type) → List (DataW H) → Bool := fun _ ds => decide (uptoBulkAll ds ≤ 1048576)
def OpenSpec.upto (s : _root_.Go.ChangeSpec) : _root_.Go.OpenSpec := { _root_.Go.OpenSpec.ofChange s with cond := some uptoSmall }

/-- 'heraldlaw06.QueuePlays', WHERE WHAT IT READS IS OF BULK AT MOST 1048576: true; the input reads as it did. -/
def queuePlaysUptoRow : OpenClaim := { program := "ytonpdnpfekmapaa", sum := "5a465ad3499d45c9ef882aa2c72349068c8fe0c261c9cfaa1dbb72f9de41c9b2", func := "herald/heraldlaw06.QueuePlays", spec := "queuePlays", inPlace := ["slices.overlaps[*herald/queue.element[int64, string]]", "slices.overlaps[[]*herald/queue.element[int64, string]]"], unfollowed := true, recurses := true, apart := false, narrowed := true }
def QueuePlaysUptoSaid : Prop := queuePlaysUptoRow.holds Try.pinned (OpenSpec.upto queuePlaysSpec)

/-- 'heraldlaw06.QueueTwo', WHERE WHAT IT READS IS OF BULK AT MOST 1048576: true; the input reads as it did. -/
def queueTwoUptoRow : OpenClaim := { program := "ytonpdnpfekmapaa", sum := "5a465ad3499d45c9ef882aa2c72349068c8fe0c261c9cfaa1dbb72f9de41c9b2", func := "herald/heraldlaw06.QueueTwo", spec := "queueTwo", inPlace := ["slices.overlaps[*herald/queue.element[int64, string]]", "slices.overlaps[[]*herald/queue.element[int64, string]]"], unfollowed := true, recurses := true, apart := false, narrowed := true }
def QueueTwoUptoSaid : Prop := queueTwoUptoRow.holds Try.pinned (OpenSpec.upto queueTwoSpec)

/-- 'heraldlaw06.QueueSorts', WHERE WHAT IT READS IS OF BULK AT MOST 1048576: true; the input reads as it did. -/
def queueSortsUptoRow : OpenClaim := { program := "ytonpdnpfekmapaa", sum := "5a465ad3499d45c9ef882aa2c72349068c8fe0c261c9cfaa1dbb72f9de41c9b2", func := "herald/heraldlaw06.QueueSorts", spec := "queueSorts", inPlace := ["slices.overlaps[*herald/queue.element[int64, string]]", "slices.overlaps[[]*herald/queue.element[int64, string]]", "slices.overlaps[*herald/queue.element[string, int]]", "slices.overlaps[[]*herald/queue.element[string, int]]"], unfollowed := true, recurses := true, apart := false, narrowed := true }
def QueueSortsUptoSaid : Prop := queueSortsUptoRow.holds Try.pinned (OpenSpec.upto queueSortsSpec)

/-- 'heraldlaw06.QueueWalk', WHERE WHAT IT READS IS OF BULK AT MOST 1048576: true; the input reads as it did. -/
def queueWalkUptoRow : OpenClaim := { program := "ytonpdnpfekmapaa", sum := "5a465ad3499d45c9ef882aa2c72349068c8fe0c261c9cfaa1dbb72f9de41c9b2", func := "herald/heraldlaw06.QueueWalk", spec := "queueWalk", inPlace := ["slices.overlaps[*herald/queue.element[int64, string]]", "slices.overlaps[[]*herald/queue.element[int64, string]]", "slices.overlaps[*herald/queue.element[int64, int]]", "slices.overlaps[[]*herald/queue.element[int64, int]]"], unfollowed := true, recurses := true, apart := false, narrowed := true }
def QueueWalkUptoSaid : Prop := queueWalkUptoRow.holds Try.pinned (OpenSpec.upto queueWalkSpec)

/-- 'heraldlaw06.QueueTickets', WHERE WHAT IT READS IS OF BULK AT MOST 1048576: true; the input reads as it did. -/
def queueTicketsUptoRow : OpenClaim := { program := "ytonpdnpfekmapaa", sum := "5a465ad3499d45c9ef882aa2c72349068c8fe0c261c9cfaa1dbb72f9de41c9b2", func := "herald/heraldlaw06.QueueTickets", spec := "queueTickets", inPlace := ["slices.overlaps[*herald/queue.element[int64, string]]", "slices.overlaps[[]*herald/queue.element[int64, string]]"], unfollowed := true, recurses := true, apart := false, narrowed := true }
def QueueTicketsUptoSaid : Prop := queueTicketsUptoRow.holds Try.pinned (OpenSpec.upto queueTicketsSpec)

/-- 'heraldlaw06.QueueMerges', WHERE WHAT IT READS IS OF BULK AT MOST 1048576: true; the input reads as it did. -/
def queueMergesUptoRow : OpenClaim := { program := "ytonpdnpfekmapaa", sum := "5a465ad3499d45c9ef882aa2c72349068c8fe0c261c9cfaa1dbb72f9de41c9b2", func := "herald/heraldlaw06.QueueMerges", spec := "queueMerges", inPlace := ["slices.overlaps[*herald/queue.element[int64, string]]", "slices.overlaps[[]*herald/queue.element[int64, string]]", "slices.overlaps[*herald/queue.element[int64, int]]", "slices.overlaps[[]*herald/queue.element[int64, int]]"], unfollowed := true, recurses := true, apart := false, narrowed := true }
def QueueMergesUptoSaid : Prop := queueMergesUptoRow.holds Try.pinned (OpenSpec.upto queueMergesSpec)

end Rows
end Go.Proofs.Ytonpdnpfekmapaa
