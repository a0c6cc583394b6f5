/-
  The library's contract of math/bits.TrailingZeros64, at this program.
-/
import Derived.Test.YtokjgeeklimcnaaDoorChecked
import Derived.Shelf.Spec.TrailingZeros
import Derived.Test.YtokjgeeklimcnaaDoorBase
namespace Go.Proofs.YtokjgeeklimcnaaDoor
open Go.Shelf

def renTz : Ren := ⟨fun | 29 => 44 | n => n, fun | 0 => 0 | 3 => 3 | 4 => 4 | 5 => 5 | 22 => 96 | 25 => 99 | 54 => 98 | n => n, fun | 1 => 0 | n => n⟩
theorem laysTz : Lays7.n29 Tryd.prog renTz := {
  mixed := by kernel_rfl
  f29 := Tryd.func44.trans (congrArg some (by kernel_rfl))
  t0 := Tryd.underlying0
  a0 := Tryd.isAgg0
  z0 := Tryd.sizeOf0
  v0 := Tryd.zeroValue0
  i0 := by kernel_rfl
  t3 := Tryd.underlying3
  a3 := Tryd.isAgg3
  z3 := Tryd.sizeOf3
  v3 := Tryd.zeroValue3
  i3 := by kernel_rfl
  t4 := Tryd.underlying4
  a4 := Tryd.isAgg4
  z4 := Tryd.sizeOf4
  v4 := Tryd.zeroValue4
  i4 := by kernel_rfl
  t5 := Tryd.underlying5
  a5 := Tryd.isAgg5
  z5 := Tryd.sizeOf5
  v5 := Tryd.zeroValue5
  i5 := by kernel_rfl
  t22 := Tryd.underlying96
  a22 := Tryd.isAgg96
  z22 := Tryd.sizeOf96
  v22 := Tryd.zeroValue96
  i22 := by kernel_rfl
  t25 := Tryd.underlying99
  a25 := Tryd.isAgg99
  z25 := Tryd.sizeOf99
  v25 := Tryd.zeroValue99
  i25 := by kernel_rfl
  t54 := Tryd.underlying98
  a54 := Tryd.isAgg98
  z54 := Tryd.sizeOf98
  g1 := by kernel_rfl }

/-- The library's table lies in its variable. -/
def Tab (w : World) : Prop := TabAt 0 Lib.deBruijn64tab w
theorem Tab.pos {w : World} (h : Tab w) : 0 < w.heap.size := Nat.lt_of_le_of_lt (Nat.zero_le _) (World.block_lt_of_cell? w _ (h 0 (by decide)))
theorem Tab.kept {S : Nat → Prop} {w w' : World} (h : Tab w) (hk : Kept S w w') (hn : ¬ S 0) : Tab w' := fun j hj => by
  have h1 := h j hj
  exact (hk.cell (p := ⟨0, j, none⟩) (World.block_lt_of_cell? w _ h1) hn).trans h1
theorem tz_any (x : Nat) (hx : x < 18446744073709551616) (w : World) (hT : Tab w) :
    Calls Tryd.prog 44 #[.int .u64 (x : Int)] w fun e w' => e = .returned (.int .i64 (Lib.ctz 64 x : Int)) ∧ w' = w :=
  Any7.bits_TrailingZeros64 laysTz x hx w (fun _ => hT)

end Go.Proofs.YtokjgeeklimcnaaDoor
