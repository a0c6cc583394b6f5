/-
  What the document's 'raw' and 'near' tell, by kind.
-/
import Derived.Test.YtmkaafnoanidpaaDoorNe
namespace Go.Proofs.YtmkaafnoanidpaaDoor
open Go.RowKit Ieee

theorem kinds (b : Nat) : (bE b = 255 ∧ bF b ≠ 0) ∨ (bE b = 255 ∧ bF b = 0) ∨ bE b ≠ 255 := by omega

/-- What the document's 'raw' tells, by kind. -/
theorem raw_none (b : Nat) (hb : b < 4294967296) (h : bE b = 255 ∧ bF b ≠ 0) (X : World) :
    Calls Tryd.prog 27 #[.int .u32 b] X fun e w' => e = .returned (.tuple #[.int .i64 2, .bool false, .int .i64 0, .int .i64 0]) ∧ X = w' := by
  have := raw_any b X hb
  rw [rawV_none h.1 h.2] at this
  exact this.mono fun _ _ h => ⟨h.1, h.2.symm⟩
theorem raw_inf (b : Nat) (hb : b < 4294967296) (h : bE b = 255 ∧ bF b = 0) (X : World) :
    Calls Tryd.prog 27 #[.int .u32 b] X fun e w' => e = .returned (.tuple #[.int .i64 1, .bool (bN b), .int .i64 0, .int .i64 0]) ∧ X = w' := by
  have := raw_any b X hb
  rw [rawV_inf h.1 h.2] at this
  exact this.mono fun _ _ h => ⟨h.1, h.2.symm⟩
theorem raw_fin (b : Nat) (hb : b < 4294967296) (h : bE b ≠ 255) (X : World) :
    Calls Tryd.prog 27 #[.int .u32 b] X fun e w' => e = .returned (.tuple #[.int .i64 0, .bool (bN b), .int .i64 (mt b), .int .i64 (ex b)]) ∧ X = w' := by
  have := raw_any b X hb
  rw [rawV_fin h] at this
  exact this.mono fun _ _ h => ⟨h.1, h.2.symm⟩
theorem refnear_all (neg : Bool) (m : Nat) (e : Int) (hm : m < 18446744073709551616) (X : World) :
    Calls Tryd.prog 40 #[.bool neg, .int .u64 m, .int .i64 e] X fun r w' => r = .returned (.int .u32 (single.nearest neg m e : Nat)) ∧ X = w' :=
  (refnear_any neg m e X hm).mono fun _ _ h => ⟨h.1, h.2.symm⟩

end Go.Proofs.YtmkaafnoanidpaaDoor
