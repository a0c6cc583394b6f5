/-
  The library's contract of math/bits.TrailingZeros32, at this program.
-/
import Derived.Test.YtagbjlkpmjbfnaaDoorChecked
import Derived.Shelf.Spec.TrailingZeros
namespace Go.Proofs.YtagbjlkpmjbfnaaDoor
open Go.Shelf

def renTz : Ren := ⟨fun | 28 => 31 | n => n, fun | 0 => 0 | 3 => 3 | 4 => 4 | 5 => 5 | 25 => 47 | 27 => 22 | 53 => 55 | n => n, fun | 0 => 1 | n => n⟩
theorem laysTz : Lays7.n28 Tryd.prog renTz := {
  mixed := by kernel_rfl
  f28 := Tryd.func31.trans (congrArg some (by kernel_rfl))
  t0 := Tryd.underlying0
  a0 := Tryd.isAgg0
  z0 := Tryd.sizeOf0
  v0 := Tryd.zeroValue0
  i0 := by kernel_rfl
  t3 := Tryd.underlying3
  a3 := Tryd.isAgg3
  z3 := Tryd.sizeOf3
  v3 := Tryd.zeroValue3
  i3 := by kernel_rfl
  t4 := Tryd.underlying4
  a4 := Tryd.isAgg4
  z4 := Tryd.sizeOf4
  v4 := Tryd.zeroValue4
  i4 := by kernel_rfl
  t5 := Tryd.underlying5
  a5 := Tryd.isAgg5
  z5 := Tryd.sizeOf5
  v5 := Tryd.zeroValue5
  i5 := by kernel_rfl
  t25 := Tryd.underlying47
  a25 := Tryd.isAgg47
  z25 := Tryd.sizeOf47
  v25 := Tryd.zeroValue47
  i25 := by kernel_rfl
  t27 := Tryd.underlying22
  a27 := Tryd.isAgg22
  z27 := Tryd.sizeOf22
  v27 := Tryd.zeroValue22
  i27 := by kernel_rfl
  t53 := Tryd.underlying55
  a53 := Tryd.isAgg55
  z53 := Tryd.sizeOf55
  v53 := Tryd.zeroValue55
  i53 := by kernel_rfl
  g0 := by kernel_rfl }

/-- The library's table lies in its variable. -/
def Tab (w : World) : Prop := TabAt 1 Lib.deBruijn32tab w
theorem tz_any (x : Nat) (hx : x < 4294967296) (w : World) (hT : Tab w) :
    Calls Tryd.prog 31 #[.int .u32 x] w fun e w' => e = .returned (.int .i64 (Lib.ctz 32 x)) ∧ w = w' :=
  (Any7.bits_TrailingZeros32 laysTz x hx w (fun _ => hT)).mono fun _ _ h => ⟨h.1, h.2.symm⟩

end Go.Proofs.YtagbjlkpmjbfnaaDoor
