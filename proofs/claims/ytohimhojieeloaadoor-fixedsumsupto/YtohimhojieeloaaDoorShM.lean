/-
  The library's contract of math/bits.Mul64, at this program.
-/
import Derived.Test.YtohimhojieeloaaDoorChecked
import Derived.Shelf.Bits.Mul64
namespace Go.Proofs.YtohimhojieeloaaDoor
open Go.Shelf

def renMul : Ren := ⟨fun | 264 => 34 | n => n, fun | 53 => 51 | 46 => 48 | n => n, fun | n => n⟩
theorem laysMul : Lays.n264 Tryd.prog renMul := {
  mixed := by kernel_rfl
  f264 := Tryd.func34.trans (congrArg some (by kernel_rfl))
  t46 := Tryd.underlying48
  a46 := Tryd.isAgg48
  z46 := Tryd.sizeOf48
  v46 := Tryd.zeroValue48
  t53 := Tryd.underlying51
  a53 := Tryd.isAgg51
  z53 := Tryd.sizeOf51
  v53 := Tryd.zeroValue51 }
theorem bits_Mul64 (x y : Nat) (hx : x < 18446744073709551616) (hy : y < 18446744073709551616) (w : World) :
    Calls Tryd.prog 34 #[.int .u64 x, .int .u64 y] w fun e w' => e = .returned (.tuple #[.int .u64 ((x * y / 18446744073709551616 : Nat) : Int), .int .u64 ((x * y % 18446744073709551616 : Nat) : Int)]) ∧ w' = w := Any.bits_Mul64 laysMul x y hx hy w
end Go.Proofs.YtohimhojieeloaaDoor
