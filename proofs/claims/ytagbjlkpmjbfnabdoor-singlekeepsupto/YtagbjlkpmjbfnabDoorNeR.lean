/-
  Near of the document.
-/
import Derived.Test.YtagbjlkpmjbfnabDoorNe
namespace Go.Proofs.YtagbjlkpmjbfnabDoor
open Go.RowKit Ieee

set_option maxHeartbeats 800000 in
theorem refNear_any (m e : Int) (w : World) (hm : -9223372036854775808 ≤ m) (hm2 : m ≤ 9223372036854775807) :
    Calls Tryd.prog 36 #[.int .i64 m, .int .i64 e] w fun r w' => r = .returned (.int .u32 (nearB m e : Nat)) ∧ w' = w := by
  unfold nearB
  obtain ⟨M, hM⟩ : ∃ M, M = m.natAbs := ⟨_, rfl⟩
  rw [← hM]
  have hM2 : M < 18446744073709551616 := by omega
  rcases Int.lt_trichotomy m 0 with h | h | h
  · rw [decide_eq_true h]
    have HM := show Hid _ from hM
    clear hM
    go_enter Tryd.func36, Tryd.ntmps36
    go_wp2_with fail
    rw [show -(m + 1) + 1 = (M : Int) by have := HM.out; omega]
    refine (refnear_any _ _ _ _ hM2).mono ?_
    rintro r w1 ⟨rfl, h1⟩
    go_wp2
    go_ret
    exact ⟨rfl, rfl⟩
  · subst h
    rw [show M = 0 from hM, show single.nearest (decide ((0 : Int) < 0)) 0 e = 0 from rfl]
    clear hM hM2
    go_enter Tryd.func36, Tryd.ntmps36
    go_wp2
    go_ret
    exact ⟨rfl, rfl⟩
  · obtain rfl : m = (M : Int) := by omega
    have a1 : IntKind.u64.wrap (M : Int) = (M : Int) := by rw [IntKind.wrap_u64]; omega
    have a2 : ((M : Int) == 0) = false := by simp; omega
    rw [decide_eq_false (by omega)]
    have HM := show Hid _ from hM
    clear hM
    go_enter Tryd.func36, Tryd.ntmps36
    go_wp2_with fail
    refine (refnear_any _ _ _ _ hM2).mono ?_
    rintro r w1 ⟨rfl, h1⟩
    go_wp2
    go_ret
    exact ⟨rfl, rfl⟩

end Go.Proofs.YtagbjlkpmjbfnabDoor
