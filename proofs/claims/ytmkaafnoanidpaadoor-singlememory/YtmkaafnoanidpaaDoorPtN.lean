/-
  The parts of a number of a format, by whole numbers.
-/
import Derived.Test.YtmkaafnoanidpaaDoorSr
import Derived.Shelf.Spec.TrailingZeros
namespace Go.Proofs.YtmkaafnoanidpaaDoor
open Ieee

/-- How many of a number's last digits are 0. -/
abbrev tz (m : Nat) : Nat := Lib.ctz 32 m
theorem tz_spec {m : Nat} (h0 : m ≠ 0) (h : m < 4294967296) : ∃ k, m = 2 ^ tz m * (2 * k + 1) ∧ tz m < 32 := by
  have := Lib.ctzFrom_spec 32 m (by omega) (by omega)
  unfold tz Lib.ctz
  rw [if_neg h0]
  exact this
theorem tz_div {m : Nat} (h0 : m ≠ 0) (h : m < 4294967296) : m / 2 ^ tz m * 2 ^ tz m = m := by
  obtain ⟨k, hk, _⟩ := tz_spec h0 h
  apply Nat.div_mul_cancel
  exact ⟨2 * k + 1, hk⟩

/-- Kind, sign, number and power. -/
structure Pt where
  kind : Int
  neg : Bool
  mant : Nat
  exp : Int
def Pt.val (p : Pt) : Value := .agg #[.int .i64 p.kind, .bool p.neg, .int .i64 p.mant, .int .i64 p.exp]
/-- The parts of bits in a format. -/
def ptOf (d : Datum) : Pt := match d with
  | .nan .. => ⟨2, false, 0, 0⟩
  | .infinity s => ⟨1, s, 0, 0⟩
  | .number s m e => if m = 0 then ⟨0, s, 0, 0⟩ else ⟨0, s, m / 2 ^ tz m, e + tz m⟩

/-- What the parts of a number make is the number itself. -/
theorem rung_pt (f : Format) (m : Nat) (e : Int) (h0 : m ≠ 0) (h : m < 4294967296) : rung f (m / 2 ^ tz m) (e + tz m) = rung f m e := by
  have h1 := rung_shift f (m / 2 ^ tz m) (tz m) (e + tz m)
  rw [tz_div h0 h, show e + (tz m : Int) - (tz m : Int) = e by omega] at h1
  exact h1.symm

end Go.Proofs.YtmkaafnoanidpaaDoor
