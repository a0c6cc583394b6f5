/-
  A single's bits without their sign.
-/
import Derived.Test.YtmkaafnoanidpaaDoorNe
namespace Go.Proofs.YtmkaafnoanidpaaDoor
open Go.RowKit Ieee

theorem andNot_top (b : Nat) (hb : b < 4294967296) : bits .andNot .u32 (b : Int) 2147483648 = ((b % 2147483648 : Nat) : Int) := by
  have h1 : (BitVec.ofInt 32 (b : Int)).toNat = b := by
    rw [BitVec.ofInt_natCast, BitVec.toNat_ofNat]; exact Nat.mod_eq_of_lt (by omega)
  have h2 : ~~~ (BitVec.ofInt 32 (2147483648 : Int)) = BitVec.ofNat 32 2147483647 := by decide
  show IntKind.u32.wrap ((BitVec.ofInt 32 (b : Int) &&& ~~~ (BitVec.ofInt 32 (2147483648 : Int))).toNat : Int) = _
  rw [h2, BitVec.toNat_and, h1]
  have h3 : (BitVec.ofNat 32 2147483647).toNat = 2 ^ 31 - 1 := by decide
  rw [h3, Nat.and_two_pow_sub_one_eq_mod]
  have e : IntKind.u32.wrap ((b % 2 ^ 31 : Nat) : Int) = ((b % 2 ^ 31 : Nat) : Int) % 4294967296 := by simp [IntKind.wrap, IntKind.signed, IntKind.bits]
  rw [e]
  omega

end Go.Proofs.YtmkaafnoanidpaaDoor
