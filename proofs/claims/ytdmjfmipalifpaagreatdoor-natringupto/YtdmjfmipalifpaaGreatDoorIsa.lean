/-
  Whether a number is the document's.
-/
import Derived.Test.YtdmjfmipalifpaaGreatDoorTa
import Derived.Test.YtdmjfmipalifpaaGreatDoorRfb
namespace Go.Proofs.YtdmjfmipalifpaaGreatDoor
open Go.RowKit

theorem bl_fit (N : Nat) : bl (fitN N) ≤ 65536 := by
  unfold fitN
  split
  · simp [bl]
  · omega

set_option maxHeartbeats 400000 in
set_option maxRecDepth 100000 in
theorem is_any (xv mv : Value) (N : Nat) (e : Int) (w : World) (hx : Nm w xv N) (hm : Rn w mv N) (hb : bl N ≤ 65536) (hT : Pw w) :
    Calls Tryz.prog 11 #[.agg #[xv], .int .i64 e, mv, .int .i64 e] w fun r w' => r = .returned (.bool true) ∧ Fresh w w' := by
  obtain ⟨a, n, c, rfl⟩ := hx.shape
  obtain ⟨a2, n2, c2, rfl⟩ := hm.shape
  have hF1 : Fresh w (w.alloc (.cells #[.slice a n c] 26)) := (Kept.refl _ _).alloc _
  have ht := natText_any _ _ _ (hx.fresh hF1) (by omega) (hT.fresh hF1)
  have hr : ∀ W, Fresh w W → Calls Tryz.prog 16 #[.slice a2 n2 c2] W fun r w' => r = .returned (.string (sB (Lib.decDigits N))) ∧ Fresh W w' := fun W (hF : Fresh w W) => refText_any _ _ W (hm.fresh hF) (by omega)
  have HF1 := show Hid _ from hF1
  clear hx hm hF1
  generalize sB (Lib.decDigits N) = D at *
  have hee : (e == e) = true := by simp
  go_enter Tryz.func11, Tryz.ntmps11
  go_wp2_with fail
  refine ht.mono ?_
  rintro r w1 ⟨rfl, hF2⟩
  have HF2 : Hid (Fresh w w1) := HF1.out.trans hF2 (fun _ _ e => e)
  have hr1 := hr w1 HF2.out
  clear ht hF2 hr HF1
  go_wp2_with fail
  refine hr1.mono ?_
  rintro r w2 ⟨rfl, hF3⟩
  have HF3 : Hid (Fresh w w2) := HF2.out.trans hF3 (fun _ _ e => e)
  clear hr1 hF3 HF2
  go_wp2
  go_ret
  exact ⟨by simp, HF3.out⟩
end Go.Proofs.YtdmjfmipalifpaaGreatDoor
