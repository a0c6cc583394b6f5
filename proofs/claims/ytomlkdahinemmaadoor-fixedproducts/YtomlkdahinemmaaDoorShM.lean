/-
  The library's contract of math/bits.Mul64, at this program.
-/
import Derived.Test.YtomlkdahinemmaaDoorChecked
import Derived.Shelf.Bits.Mul64
namespace Go.Proofs.YtomlkdahinemmaaDoor
open Go.Shelf

def renMul : Ren := ⟨fun | 264 => 35 | n => n, fun | 53 => 47 | 46 => 29 | n => n, fun | n => n⟩
theorem laysMul : Lays.n264 Tryd.prog renMul := {
  mixed := by kernel_rfl
  f264 := Tryd.func35.trans (congrArg some (by kernel_rfl))
  t46 := Tryd.underlying29
  a46 := Tryd.isAgg29
  z46 := Tryd.sizeOf29
  v46 := Tryd.zeroValue29
  t53 := Tryd.underlying47
  a53 := Tryd.isAgg47
  z53 := Tryd.sizeOf47
  v53 := Tryd.zeroValue47 }
theorem bits_Mul64 (x y : Nat) (hx : x < 18446744073709551616) (hy : y < 18446744073709551616) (w : World) :
    Calls Tryd.prog 35 #[.int .u64 x, .int .u64 y] w fun e w' => e = .returned (.tuple #[.int .u64 ((x * y / 18446744073709551616 : Nat) : Int), .int .u64 ((x * y % 18446744073709551616 : Nat) : Int)]) ∧ w' = w := Any.bits_Mul64 laysMul x y hx hy w
end Go.Proofs.YtomlkdahinemmaaDoor
