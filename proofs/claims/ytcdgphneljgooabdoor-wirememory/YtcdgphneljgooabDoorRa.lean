/-
  What the document's own writer does (package heraldref01), each call told of cells.
-/
import Derived.Test.YtcdgphneljgooabDoorWd
namespace Go.Proofs.YtcdgphneljgooabDoor
open Go.RowKit

set_option maxHeartbeats 400000 in
theorem refSize_any (n : Int) (w : World) : Calls Tryd.prog 62 #[.int .i64 n] w fun e w' => e = .returned (.bool (isSz n)) ∧ w' = w := by
  go_enter Tryd.func62, Tryd.ntmps62
  by_cases h1 : n = 1
  · subst h1; go_wp2; go_ret; exact ⟨rfl, rfl⟩
  by_cases h2 : n = 2
  · subst h2; go_wp2; go_ret; exact ⟨rfl, rfl⟩
  by_cases h4 : n = 4
  · subst h4; go_wp2; go_ret; exact ⟨rfl, rfl⟩
  have b1 : (n == 1) = false := by simp [h1]
  have b2 : (n == 2) = false := by simp [h2]
  have b4 : (n == 4) = false := by simp [h4]
  have HZ : Hid (isSz n = (n == 8)) := by show isSz n = _; simp [isSz, b1, b2, b4]
  go_wp2
  go_ret
  exact ⟨ret_bool HZ.out.symm, rfl⟩

set_option maxHeartbeats 400000 in
theorem refNumber_arg (n bytes : Int) (w : World) (hz : isSz bytes = false) :
    Calls Tryd.prog 51 #[.int .i64 n, .int .i64 bytes] w fun e w' => e = .returned (.tuple #[.string ⟨#[]⟩, .int .i64 1]) ∧ w' = w := by
  go_enter Tryd.func51, Tryd.ntmps51
  go_wp2_with fail
  refine (refSize_any _ _).mono ?_
  rintro e w' ⟨rfl, rfl⟩
  rw [hz]
  go_wp2
  go_ret2
  exact ⟨rfl, rfl⟩

/-- 1 << 8 k. -/
theorem shl_one (k : Nat) (hk : k = 1 ∨ k = 2 ∨ k = 4) : IntKind.i64.wrap (1 * 2 ^ (8 * k)) = 256 ^ k := by
  rcases hk with rfl | rfl | rfl <;> decide

set_option maxHeartbeats 400000 in
theorem refNumber_wide (n bytes : Int) (w : World) (hz : isSz bytes = true) (hx : n ≤ 9223372036854775807) (hn : n < 0 ∨ 256 ^ bytes.toNat ≤ n) :
    Calls Tryd.prog 51 #[.int .i64 n, .int .i64 bytes] w fun e w' => e = .returned (.tuple #[.string ⟨#[]⟩, .int .i64 10]) ∧ w' = w := by
  by_cases h0 : n < 0
  · go_enter Tryd.func51, Tryd.ntmps51
    go_wp2_with fail
    refine (refSize_any _ _).mono ?_
    rintro e w' ⟨rfl, rfl⟩
    rw [hz]
    go_wp2
    go_ret2
    exact ⟨rfl, rfl⟩
  · have h1 := hn.resolve_left h0
    have h0' : 0 ≤ n := by omega
    rcases isSz_cases hz with rfl | rfl | rfl | rfl
    · simp only [show (1 : Int).toNat = 1 from rfl, show (256 : Int) ^ 1 = 256 from by decide] at h1
      go_enter Tryd.func51, Tryd.ntmps51
      go_wp2_with fail
      refine (refSize_any _ _).mono ?_
      rintro e w' ⟨rfl, rfl⟩
      rw [hz]
      go_wp2
      go_ret2
      exact ⟨rfl, rfl⟩
    · simp only [show (2 : Int).toNat = 2 from rfl, show (256 : Int) ^ 2 = 65536 from by decide] at h1
      go_enter Tryd.func51, Tryd.ntmps51
      go_wp2_with fail
      refine (refSize_any _ _).mono ?_
      rintro e w' ⟨rfl, rfl⟩
      rw [hz]
      go_wp2
      go_ret2
      exact ⟨rfl, rfl⟩
    · simp only [show (4 : Int).toNat = 4 from rfl, show (256 : Int) ^ 4 = 4294967296 from by decide] at h1
      go_enter Tryd.func51, Tryd.ntmps51
      go_wp2_with fail
      refine (refSize_any _ _).mono ?_
      rintro e w' ⟨rfl, rfl⟩
      rw [hz]
      go_wp2
      go_ret2
      exact ⟨rfl, rfl⟩
    · exfalso
      have e : (256 : Int) ^ (8 : Int).toNat = 18446744073709551616 := by decide
      rw [e] at h1
      omega

end Go.Proofs.YtcdgphneljgooabDoor
