/-
  What Number, Text and End of package wire's Reader answer, told of cells.
-/
import Derived.Test.YtcdgphneljgooaaDoorWe
namespace Go.Proofs.YtcdgphneljgooaaDoor
open Go.RowKit

set_option maxHeartbeats 400000 in
theorem rnumber_any (b : Nat) (s : ByteArray) (i : Nat) (bytes : Int) (w : World) (hs : Siz w) (h : RdAt w b s i) :
    Calls Tryd.prog 29 #[.pointer (some ⟨b, 0, none⟩), .int .i64 bytes] w fun e w' =>
      e = .returned (.tuple #[.int .i64 (numR s i bytes).1, .int .i64 (numR s i bytes).2.1]) ∧ RdAt w' b s (numR s i bytes).2.2 ∧ Kept (only b) w w' := by
  have h2 := h.2.1
  have h3 := h.2.2
  by_cases hz : isSz bytes = true
  · by_cases hl : ((s.size - i : Nat) : Int) < bytes
    · rw [show numR s i bytes = (0, 11, i) from by unfold numR; rw [if_neg (by simp [hz]), if_pos hl]]
      go_enter Tryd.func29, Tryd.ntmps29
      go_wp2_with fail
      refine (isSize_any _ _ hs).mono ?_
      rintro e w' ⟨rfl, rfl⟩
      rw [hz]
      go_wp2_with fail
      refine (rleft_any b s i _ h).mono ?_
      rintro e W ⟨rfl, n1, hW⟩
      have hk1 : Kept (only b) w' W := by rw [hW]; exact (Kept.refl _ _).drewN n1
      have hr1 : RdAt W b s i := by rw [hW]; exact h.drewN n1
      clear hW
      go_wp2
      go_ret2
      exact ⟨rfl, hr1, hk1⟩
    · by_cases hx : 9223372036854775807 < unle (sub s i bytes.toNat)
      · have hc := isSz_cases hz
        obtain ⟨k, rfl⟩ : ∃ k : Nat, bytes = k := ⟨bytes.toNat, by omega⟩
        simp only [Int.toNat_natCast] at hx
        rw [show numR s i (k : Int) = (0, 10, i) from by unfold numR; rw [if_neg (by simp [hz]), if_neg hl, if_pos (by rw [Int.toNat_natCast]; exact hx)]]
        have hi0 : (0 : Int) ≤ (i : Int) := by omega
        have hi1 : (i : Int) ≤ (s.size : Int) := by omega
        go_enter Tryd.func29, Tryd.ntmps29
        go_wp2_with fail
        refine (isSize_any _ _ hs).mono ?_
        rintro e w' ⟨rfl, rfl⟩
        rw [hz]
        go_wp2_with fail
        refine (rleft_any b s i _ h).mono ?_
        rintro e W ⟨rfl, n1, hW⟩
        have hk1 : Kept (only b) w' W := by rw [hW]; exact (Kept.refl _ _).drewN n1
        have hr1 : RdAt W b s i := by rw [hW]; exact h.drewN n1
        clear hW
        have h0 := hr1.c0
        have h1 := hr1.c1
        go_wp2_with fail
        go_quiet ((go_at_call 41; exact Calls.quiet_of_same (rfixed_cut s i k _ (by omega) (by omega) h3)))
        have hx' : (9223372036854775807 : Int) < ((unle ((s.data.toList.drop i).take k) : Nat) : Int) := by unfold sub at hx; omega
        clear hx
        generalize unle ((s.data.toList.drop i).take k) = x at *
        go_wp2
        go_ret2
        exact ⟨rfl, hr1.drewN _, hk1.drewN _⟩
      · have e1 : numR s i bytes = (((unle (sub s i bytes.toNat) : Nat) : Int), 0, i + bytes.toNat) := by unfold numR; rw [if_neg (by simp [hz]), if_neg hl, if_neg hx]
        rw [e1]
        exact rnumber_ok b s i bytes w hs h hz (by omega) (by unfold sub at hx; omega)
  · have hz' : isSz bytes = false := by simpa using hz
    rw [show numR s i bytes = (0, 1, i) from by unfold numR; rw [if_pos hz']]
    go_enter Tryd.func29, Tryd.ntmps29
    go_wp2_with fail
    refine (isSize_any _ _ hs).mono ?_
    rintro e w' ⟨rfl, rfl⟩
    rw [hz']
    go_wp2
    go_ret2
    exact ⟨rfl, h, Kept.refl _ _⟩

set_option maxHeartbeats 400000 in
theorem rend_any (b : Nat) (s : ByteArray) (i : Nat) (w : World) (h : RdAt w b s i) :
    Calls Tryd.prog 28 #[.pointer (some ⟨b, 0, none⟩)] w fun e w' => e = .returned (.int .i64 (if i = s.size then 0 else 13)) ∧ ∃ n, w' = w.drewN n := by
  have h2 := h.2.1
  by_cases he : i = s.size
  · rw [if_pos he]
    go_enter Tryd.func28, Tryd.ntmps28
    go_wp2_with fail
    refine (rleft_any b s i _ h).mono ?_
    rintro e W ⟨rfl, n1, hW⟩
    have HW : Hid (∃ n, W = w.drewN n) := ⟨n1, hW⟩
    clear hW
    rw [show s.size - i = 0 from by omega]
    go_wp2
    go_ret
    exact ⟨rfl, HW.out⟩
  · rw [if_neg he]
    go_enter Tryd.func28, Tryd.ntmps28
    go_wp2_with fail
    refine (rleft_any b s i _ h).mono ?_
    rintro e W ⟨rfl, n1, hW⟩
    have HW : Hid (∃ n, W = w.drewN n) := ⟨n1, hW⟩
    clear hW
    have hp : 0 < s.size - i := by omega
    go_wp2
    go_ret
    exact ⟨rfl, HW.out⟩

set_option maxHeartbeats 800000 in
theorem rtext_any (b : Nat) (s : ByteArray) (i : Nat) (most : Int) (w : World) (h : RdAt w b s i) :
    Calls Tryd.prog 32 #[.pointer (some ⟨b, 0, none⟩), .int .i64 most] w fun e w' =>
      e = .returned (.tuple #[.string ⟨(textR s i most).1.toArray⟩, .int .i64 (textR s i most).2.1]) ∧ RdAt w' b s (textR s i most).2.2 ∧ Kept (only b) w w' := by
  have h2 := h.2.1
  have h3 := h.2.2
  by_cases hn : most < 0
  · rw [show textR s i most = ([], 1, i) from by simp [textR, hn]]
    go_enter Tryd.func32, Tryd.ntmps32
    go_wp2
    go_ret2
    exact ⟨rfl, h, Kept.refl _ _⟩
  have hn' : 0 ≤ most := by omega
  by_cases hl : s.size - i < 4
  · rw [show textR s i most = ([], 11, i) from by unfold textR; rw [if_neg hn, if_pos hl]]
    go_enter Tryd.func32, Tryd.ntmps32
    go_wp2_with fail
    refine (rleft_any b s i _ h).mono ?_
    rintro e W ⟨rfl, n1, hW⟩
    have hk1 : Kept (only b) w W := by rw [hW]; exact (Kept.refl _ _).drewN n1
    have hr1 : RdAt W b s i := by rw [hW]; exact h.drewN n1
    clear hW
    go_wp2
    go_ret2
    exact ⟨rfl, hr1, hk1⟩
  have hx : unle (sub s i 4) < 4294967296 := by
    have := unle_lt (sub s i 4)
    rw [sub_length s i 4 (by omega)] at this
    omega
  have hi0 : (0 : Int) ≤ (i : Int) := by omega
  have hi1 : (i : Int) ≤ (s.size : Int) := by omega
  have hq : ∀ W : World, Calls Tryd.prog 41 #[.string (s.extract i s.size), .int .i64 4] W fun e w' => e = .returned (.int .u64 (unle (sub s i 4))) ∧ w' = W := fun W => rfixed_cut s i 4 W (by omega) (by omega) h3
  have HQ := show Hid _ from hq
  clear hq
  have HT : Hid (textR s i most = if most < unle (sub s i 4) then ([], 12, i) else if s.size - i - 4 < unle (sub s i 4) then ([], 11, i) else (sub s (i + 4) (unle (sub s i 4)), 0, i + 4 + unle (sub s i 4))) := by
    show textR s i most = _; unfold textR; rw [if_neg hn, if_neg hl]
  have hx2 : ((unle (sub s i 4) : Nat) : Int) ≤ 9223372036854775807 := by omega
  generalize unle (sub s i 4) = x at *
  rw [HT.out]
  by_cases hm : most < x
  · rw [if_pos hm]
    go_enter Tryd.func32, Tryd.ntmps32
    go_wp2_with fail
    refine (rleft_any b s i _ h).mono ?_
    rintro e W ⟨rfl, n1, hW⟩
    have hk1 : Kept (only b) w W := by rw [hW]; exact (Kept.refl _ _).drewN n1
    have hr1 : RdAt W b s i := by rw [hW]; exact h.drewN n1
    clear hW
    have h0 := hr1.c0
    have h1 := hr1.c1
    go_wp2_with fail
    go_quiet ((go_at_call 41; exact Calls.quiet_of_same (HQ.out _)))
    go_wp2
    go_ret2
    exact ⟨rfl, hr1.drewN _, hk1.drewN _⟩
  · rw [if_neg hm]
    by_cases hr : s.size - i - 4 < x
    · rw [if_pos hr]
      go_enter Tryd.func32, Tryd.ntmps32
      go_wp2_with fail
      refine (rleft_any b s i _ h).mono ?_
      rintro e W ⟨rfl, n1, hW⟩
      have hk1 : Kept (only b) w W := by rw [hW]; exact (Kept.refl _ _).drewN n1
      have hr1 : RdAt W b s i := by rw [hW]; exact h.drewN n1
      clear hW
      have h0 := hr1.c0
      have h1 := hr1.c1
      go_wp2_with fail
      go_quiet ((go_at_call 41; exact Calls.quiet_of_same (HQ.out _)))
      go_wp2
      go_ret2
      exact ⟨rfl, hr1.drewN _, hk1.drewN _⟩
    · rw [if_neg hr]
      go_enter Tryd.func32, Tryd.ntmps32
      go_wp2_with fail
      refine (rleft_any b s i _ h).mono ?_
      rintro e W ⟨rfl, n1, hW⟩
      have hk1 : Kept (only b) w W := by rw [hW]; exact (Kept.refl _ _).drewN n1
      have hr1 : RdAt W b s i := by rw [hW]; exact h.drewN n1
      clear hW
      have h0 := hr1.c0
      have h1 := hr1.c1
      go_wp2_with fail
      go_quiet ((go_at_call 41; exact Calls.quiet_of_same (HQ.out _)))
      go_wp2_with fail
      refine (rtake_any b s i 4 x 0 _ (hr1.drewN _) (by omega)).mono ?_
      rintro e W2 ⟨rfl, hr2, hk2⟩
      go_wp2
      go_ret2
      exact ⟨rfl, hr2, (hk1.drewN _).trans hk2 (fun _ _ e => e)⟩

end Go.Proofs.YtcdgphneljgooaaDoor
