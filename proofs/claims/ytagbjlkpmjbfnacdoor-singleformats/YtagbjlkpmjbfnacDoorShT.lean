/-
  The library's contract of math/bits.TrailingZeros32, at this program.
-/
import Derived.Test.YtagbjlkpmjbfnacDoorChecked
import Derived.Shelf.Spec.TrailingZeros
namespace Go.Proofs.YtagbjlkpmjbfnacDoor
open Go.Shelf

def renTz : Ren := ⟨fun | 28 => 39 | n => n, fun | 0 => 0 | 3 => 3 | 4 => 4 | 5 => 5 | 25 => 67 | 27 => 22 | 53 => 74 | n => n, fun | 0 => 3 | n => n⟩
theorem laysTz : Lays7.n28 Tryd.prog renTz := {
  mixed := by kernel_rfl
  f28 := Tryd.func39.trans (congrArg some (by kernel_rfl))
  t0 := Tryd.underlying0
  a0 := Tryd.isAgg0
  z0 := Tryd.sizeOf0
  v0 := Tryd.zeroValue0
  i0 := by kernel_rfl
  t3 := Tryd.underlying3
  a3 := Tryd.isAgg3
  z3 := Tryd.sizeOf3
  v3 := Tryd.zeroValue3
  i3 := by kernel_rfl
  t4 := Tryd.underlying4
  a4 := Tryd.isAgg4
  z4 := Tryd.sizeOf4
  v4 := Tryd.zeroValue4
  i4 := by kernel_rfl
  t5 := Tryd.underlying5
  a5 := Tryd.isAgg5
  z5 := Tryd.sizeOf5
  v5 := Tryd.zeroValue5
  i5 := by kernel_rfl
  t25 := Tryd.underlying67
  a25 := Tryd.isAgg67
  z25 := Tryd.sizeOf67
  v25 := Tryd.zeroValue67
  i25 := by kernel_rfl
  t27 := Tryd.underlying22
  a27 := Tryd.isAgg22
  z27 := Tryd.sizeOf22
  v27 := Tryd.zeroValue22
  i27 := by kernel_rfl
  t53 := Tryd.underlying74
  a53 := Tryd.isAgg74
  z53 := Tryd.sizeOf74
  v53 := Tryd.zeroValue74
  i53 := by kernel_rfl
  g0 := by kernel_rfl }

/-- The library's table lies in its variable. -/
def Tab (w : World) : Prop := TabAt 3 Lib.deBruijn32tab w
theorem tz_any (x : Nat) (hx : x < 4294967296) (w : World) (hT : Tab w) :
    Calls Tryd.prog 39 #[.int .u32 x] w fun e w' => e = .returned (.int .i64 (Lib.ctz 32 x)) ∧ w = w' :=
  (Any7.bits_TrailingZeros32 laysTz x hx w (fun _ => hT)).mono fun _ _ h => ⟨h.1, h.2.symm⟩

end Go.Proofs.YtagbjlkpmjbfnacDoor
