/-
  'near' of any size, 0 with them.
-/
import Derived.Test.YtmkaafnoanidpaaDoorNr
namespace Go.Proofs.YtmkaafnoanidpaaDoor
open Go.RowKit Ieee

set_option maxHeartbeats 800000 in
theorem nearz_single (neg : Bool) (e : Int) (w : World) :
    Calls Tryd.prog 48 #[fmtV 8 23, .bool neg, .int .u64 0, .int .i64 e] w fun r w' => r = .returned (.int .u32 (single.nearest neg 0 e : Nat)) ∧ Fresh w w' := by
  have hB := BoxAt.new w 8 23 71
  obtain ⟨⟨q0, q1⟩, q2⟩ := id hB
  cases neg
  · have hv : single.nearest false 0 e = 0 := by
      rw [nearest_rung]; unfold rung; rw [if_pos rfl]; rfl
    rw [hv]
    clear hv
    go_enter Tryd.func48, Tryd.ntmps48
    go_wp2
    go_ret
    exact ⟨rfl, q2⟩
  · have hv : ((single.nearest true 0 e : Nat) : Int) = 2147483648 := by
      have h1 : single.nearest true 0 e = single.signWeight + 0 := by
        rw [nearest_rung]; unfold rung; rw [if_pos rfl]; rfl
      have h2 : single.signWeight = 2147483648 := by decide
      rw [h1, h2]; rfl
    rw [hv]
    clear hv
    go_enter Tryd.func48, Tryd.ntmps48
    go_wp2_with fail
    refine (sign_single _).mono ?_
    rintro r W1 ⟨rfl, hW1⟩
    go_wp2
    go_ret
    exact ⟨rfl, q2.trans hW1 (fun _ _ e => e)⟩
theorem nearA_single (neg : Bool) (m : Nat) (e : Int) (w : World) (hm : m < 18446744073709551616) :
    Calls Tryd.prog 48 #[fmtV 8 23, .bool neg, .int .u64 m, .int .i64 e] w fun r w' => r = .returned (.int .u32 (single.nearest neg m e : Nat)) ∧ Fresh w w' := by
  rcases Nat.eq_zero_or_pos m with rfl | h
  · exact nearz_single neg e w
  · exact near_single neg m e w hm (by omega)

set_option maxHeartbeats 800000 in
theorem nearz_half (neg : Bool) (e : Int) (w : World) :
    Calls Tryd.prog 48 #[fmtV 5 10, .bool neg, .int .u64 0, .int .i64 e] w fun r w' => r = .returned (.int .u32 (half.nearest neg 0 e : Nat)) ∧ Fresh w w' := by
  have hB := BoxAt.new w 5 10 71
  obtain ⟨⟨q0, q1⟩, q2⟩ := id hB
  cases neg
  · have hv : half.nearest false 0 e = 0 := by
      rw [nearest_rung]; unfold rung; rw [if_pos rfl]; rfl
    rw [hv]
    clear hv
    go_enter Tryd.func48, Tryd.ntmps48
    go_wp2
    go_ret
    exact ⟨rfl, q2⟩
  · have hv : ((half.nearest true 0 e : Nat) : Int) = 32768 := by
      have h1 : half.nearest true 0 e = half.signWeight + 0 := by
        rw [nearest_rung]; unfold rung; rw [if_pos rfl]; rfl
      have h2 : half.signWeight = 32768 := by decide
      rw [h1, h2]; rfl
    rw [hv]
    clear hv
    go_enter Tryd.func48, Tryd.ntmps48
    go_wp2_with fail
    refine (sign_half _).mono ?_
    rintro r W1 ⟨rfl, hW1⟩
    go_wp2
    go_ret
    exact ⟨rfl, q2.trans hW1 (fun _ _ e => e)⟩
theorem nearA_half (neg : Bool) (m : Nat) (e : Int) (w : World) (hm : m < 18446744073709551616) :
    Calls Tryd.prog 48 #[fmtV 5 10, .bool neg, .int .u64 m, .int .i64 e] w fun r w' => r = .returned (.int .u32 (half.nearest neg m e : Nat)) ∧ Fresh w w' := by
  rcases Nat.eq_zero_or_pos m with rfl | h
  · exact nearz_half neg e w
  · exact near_half neg m e w hm (by omega)

set_option maxHeartbeats 800000 in
theorem nearz_brain (neg : Bool) (e : Int) (w : World) :
    Calls Tryd.prog 48 #[fmtV 8 7, .bool neg, .int .u64 0, .int .i64 e] w fun r w' => r = .returned (.int .u32 (brain.nearest neg 0 e : Nat)) ∧ Fresh w w' := by
  have hB := BoxAt.new w 8 7 71
  obtain ⟨⟨q0, q1⟩, q2⟩ := id hB
  cases neg
  · have hv : brain.nearest false 0 e = 0 := by
      rw [nearest_rung]; unfold rung; rw [if_pos rfl]; rfl
    rw [hv]
    clear hv
    go_enter Tryd.func48, Tryd.ntmps48
    go_wp2
    go_ret
    exact ⟨rfl, q2⟩
  · have hv : ((brain.nearest true 0 e : Nat) : Int) = 32768 := by
      have h1 : brain.nearest true 0 e = brain.signWeight + 0 := by
        rw [nearest_rung]; unfold rung; rw [if_pos rfl]; rfl
      have h2 : brain.signWeight = 32768 := by decide
      rw [h1, h2]; rfl
    rw [hv]
    clear hv
    go_enter Tryd.func48, Tryd.ntmps48
    go_wp2_with fail
    refine (sign_brain _).mono ?_
    rintro r W1 ⟨rfl, hW1⟩
    go_wp2
    go_ret
    exact ⟨rfl, q2.trans hW1 (fun _ _ e => e)⟩
theorem nearA_brain (neg : Bool) (m : Nat) (e : Int) (w : World) (hm : m < 18446744073709551616) :
    Calls Tryd.prog 48 #[fmtV 8 7, .bool neg, .int .u64 m, .int .i64 e] w fun r w' => r = .returned (.int .u32 (brain.nearest neg m e : Nat)) ∧ Fresh w w' := by
  rcases Nat.eq_zero_or_pos m with rfl | h
  · exact nearz_brain neg e w
  · exact near_brain neg m e w hm (by omega)

end Go.Proofs.YtmkaafnoanidpaaDoor
