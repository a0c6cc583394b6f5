/-
  The usual bends, the document's.
-/
import Derived.Test.YtbppahmcjifflaaDoorAcN
import Derived.Test.YtbppahmcjifflaaDoorSfr
import Derived.Test.YtbppahmcjifflaaDoorGrw
namespace Go.Proofs.YtbppahmcjifflaaDoor
open Go.RowKit Go.Lib Go.Maps

set_option maxHeartbeats 1000000 in
theorem refPart_up (x : Int) (w : World) (hx : 0 ≤ x ∧ x ≤ 128) : Calls Tryd.prog 42 #[zV x] w fun e w' => e = .returned (zV (opP x)) ∧ Drew w w' := by
  have HX : Hid (Unit → _) := fun (_ : Unit) => refExp2_any (-8192 * x) w ⟨by omega, by omega⟩
  have h0 := exp2_nonneg (-8192 * x)
  have h1 := exp2_le (-8192 * x)
  unfold opP
  obtain ⟨x0, x1⟩ := hx
  have hx0 : ¬ x < 0 := by omega
  generalize exp2 (-8192 * x) = e at *
  have HF : Hid (∀ W, _) := fun W => refFloor_ok 68719476736 (1073741824 + e) W ⟨by omega, by omega⟩ (by omega) (by omega)
  generalize (68719476736 : Int) / (1073741824 + e) = q at *
  generalize (68719476736 : Int) % (1073741824 + e) = r at *
  go_enter Tryd.func42, Tryd.ntmps42
  go_wp2_with fail
  refine (HX.out ()).mono ?_
  rintro e w1 ⟨rfl, hw1⟩
  clear HX
  go_wp2_with fail
  refine (HF.out w1).mono ?_
  rintro e w2 ⟨rfl, hw2⟩
  have HD : Hid (Drew w w2) := hw1.trans hw2
  clear HF hw1 hw2
  go_wp2
  go_ret
  exact ⟨rfl, HD.out⟩

set_option maxHeartbeats 1000000 in
theorem refPart_any (x : Int) (w : World) (hx : C8 x) : Calls Tryd.prog 42 #[zV x] w fun e w' => e = .returned (zV (opn x)) ∧ Drew w w' := by
  obtain ⟨x0, x1⟩ := hx
  unfold opn
  by_cases h : x < 0
  · rw [if_pos h]
    have HX : Hid (Unit → _) := fun (_ : Unit) => refPart_up (-x) w ⟨by omega, by omega⟩
    have hb := opP_bound (-x)
    generalize opP (-x) = o at *
    go_enter Tryd.func42, Tryd.ntmps42
    go_wp2_with fail
    refine (HX.out ()).mono ?_
    rintro e w1 ⟨rfl, hw1⟩
    clear HX
    go_wp2
    go_ret
    exact ⟨rfl, hw1⟩
  · rw [if_neg h]
    exact refPart_up x w ⟨by omega, by omega⟩

theorem rdQ_zero (s : Int) : rdQ 0 s = 0 := by
  unfold rdQ near
  split
  · rfl
  · rename_i h
    have := pow62 s.toNat (by omega)
    generalize (2 : Int) ^ s.toNat = d at *
    rw [Int.zero_emod, Int.zero_ediv, if_neg (by omega)]
theorem clamp_in {x : Int} (h : -127 ≤ x ∧ x ≤ 127) : clamp x (-127) 127 = x := by unfold clamp; rw [if_neg (by omega), if_neg (by omega)]

theorem refNarrow_to {x z : Int} (h : clamp x (-127) 127 = z) (W : World) : Calls Tryd.prog 28 #[zV x] W fun e w' => e = .returned (.int .i8 z) ∧ Drew W w' := by
  rw [← h]; exact refNarrow_any x W

set_option maxHeartbeats 1000000 in
theorem refBent_any (k x : Int) (w : World) (hk : 1 ≤ k ∧ k ≤ 3) (hx : C8 x) : Calls Tryd.prog 24 #[zV k, zV x] w fun e w' => e = .returned (.int .i8 (bnt k x)) ∧ Drew w w' := by
  have hx' := hx
  obtain ⟨x0, x1⟩ := hx'
  have hc : k = 1 ∨ k = 2 ∨ k = 3 := by omega
  rcases hc with rfl | rfl | rfl
  · rw [bnt_cut]
    by_cases h : 0 < x
    · have HN : Hid (Unit → _) := fun (_ : Unit) => refNarrow_to (x := x) (z := max x 0) (by rw [clamp_in ⟨by omega, by omega⟩]; omega) w
      generalize max x 0 = c at *
      go_enter Tryd.func24, Tryd.ntmps24
      go_wp2_with fail
      refine (HN.out ()).mono ?_
      rintro e w1 ⟨rfl, hw1⟩
      clear HN
      go_wp2
      go_ret
      exact ⟨rfl, hw1⟩
    · have HN : Hid (Unit → _) := fun (_ : Unit) => refNarrow_to (x := 0) (z := max x 0) (by rw [clamp_in ⟨by omega, by omega⟩]; omega) w
      generalize max x 0 = c at *
      go_enter Tryd.func24, Tryd.ntmps24
      go_wp2_with fail
      refine (HN.out ()).mono ?_
      rintro e w1 ⟨rfl, hw1⟩
      clear HN
      go_wp2
      go_ret
      exact ⟨rfl, hw1⟩
  · rw [bnt_soft]
    have HP : Hid (Unit → _) := fun (_ : Unit) => refPart_any x w hx
    obtain ⟨m0, m1⟩ := mul_opn hx
    have HR : Hid (∀ W, _) := fun W => refRound_any (x * opn x) 6 W ⟨by omega, by omega⟩
    have HN : Hid (∀ W, _) := fun W => refNarrow_to (x := rdQ (x * opn x) 6) rfl W
    generalize opn x = o at *
    generalize clamp (rdQ (x * o) 6) (-127) 127 = c at *
    generalize rdQ (x * o) 6 = q at *
    generalize rdE 6 = E at *
    go_enter Tryd.func24, Tryd.ntmps24
    go_wp2_with fail
    refine (HP.out ()).mono ?_
    rintro e w1 ⟨rfl, hw1⟩
    clear HP
    go_wp2_with fail
    refine (HR.out w1).mono ?_
    rintro e w2 ⟨rfl, hw2⟩
    clear HR
    go_wp2_with fail
    refine (HN.out w2).mono ?_
    rintro e w3 ⟨rfl, hw3⟩
    have HD : Hid (Drew w w3) := (hw1.trans hw2).trans hw3
    clear HN hw1 hw2 hw3
    go_wp2
    go_ret
    exact ⟨rfl, HD.out⟩
  · rw [bnt_square]
    obtain ⟨m0, m1⟩ := mul_max hx
    by_cases h : 0 < x
    · rw [show max x 0 = x by omega] at m0 m1 ⊢
      have HR : Hid (∀ W, _) := fun W => refRound_any (x * x) 7 W ⟨by omega, by omega⟩
      have HN : Hid (∀ W, _) := fun W => refNarrow_to (x := rdQ (x * x) 7) rfl W
      generalize clamp (rdQ (x * x) 7) (-127) 127 = c at *
      generalize rdQ (x * x) 7 = q at *
      generalize rdE 7 = E at *
      go_enter Tryd.func24, Tryd.ntmps24
      go_wp2_with fail
      refine (HR.out w).mono ?_
      rintro e w2 ⟨rfl, hw2⟩
      clear HR
      go_wp2_with fail
      refine (HN.out w2).mono ?_
      rintro e w3 ⟨rfl, hw3⟩
      have HD : Hid (Drew w w3) := hw2.trans hw3
      clear HN hw2 hw3
      go_wp2
      go_ret
      exact ⟨rfl, HD.out⟩
    · have HN : Hid (Unit → _) := fun (_ : Unit) => refNarrow_to (x := 0) (z := clamp (rdQ (x * max x 0) 7) (-127) 127) (by rw [show max x 0 = 0 by omega, Int.mul_zero, rdQ_zero]) w
      generalize clamp (rdQ (x * max x 0) 7) (-127) 127 = c at *
      clear m0 m1
      go_enter Tryd.func24, Tryd.ntmps24
      go_wp2_with fail
      refine (HN.out ()).mono ?_
      rintro e w1 ⟨rfl, hw1⟩
      clear HN
      go_wp2
      go_ret
      exact ⟨rfl, hw1⟩

set_option maxHeartbeats 1000000 in
set_option maxRecDepth 100000 in
theorem refTable_any (k : Int) (w : World) : Calls Tryd.prog 11 #[zV k] w fun e w' => Gives .i8 30 (tbL k) (tbE k) w e w' := by
  have HG : Hid (∀ (E : Int), Gives .i8 30 [] E w (.returned (.tuple #[.slice none 0 0, zV E])) w) := fun E => Gives.none _ _ _ _
  by_cases h1 : k < 1
  · have h : ¬ (1 ≤ k ∧ k ≤ 3) := by omega
    rw [tbE_bad h, tbL_bad h]
    go_enter Tryd.func11, Tryd.ntmps11
    go_wp2
    go_ret2
    exact HG.out _
  by_cases h2 : 3 < k
  · have h : ¬ (1 ≤ k ∧ k ≤ 3) := by omega
    rw [tbE_bad h, tbL_bad h]
    go_enter Tryd.func11, Tryd.ntmps11
    go_wp2
    go_ret2
    exact HG.out _
  have h : 1 ≤ k ∧ k ≤ 3 := by omega
  rw [tbE_ok h, tbL_ok h]
  have HF : Hid (∀ i, i < 256 → ∀ W, Calls Tryd.prog 24 #[zV k, zV (at8 i)] W fun e w' => e = .returned (.int .i8 (tbF k i)) ∧ Drew W w') := fun i hi W => refBent_any k (at8 i) W h (at8_c8 hi)
  have hS : Hid (Grw .i8 30 w (tbF k) 0 w.heap.size 0 (w.alloc (.cells #[] 30))) := Grw.start _ (Kept.refl _ _)
  clear HG h
  generalize hW0 : w.alloc (.cells #[] 30) = W0 at *
  go_enter Tryd.func11, Tryd.ntmps11
  go_wp2
  clear hW0
  go_loopw [4, 5] (fun ov iv wr => ∃ j g c : Nat, j ≤ 256 ∧ iv = zV j ∧ ov = .slice (some ⟨g, 0, none⟩) j c ∧ Hid (Grw .i8 30 w (tbF k) j g c wr)) (fun _ iv _ => 256 - (RowKit.intOf iv).toNat)
  case atStart => exact ⟨0, _, _, Nat.zero_le _, rfl, rfl, hS.out⟩
  case round =>
    obtain ⟨j, og, oc, hj, rfl, rfl, HA⟩ := hrel
    clear hS
    by_cases hlt : j < 256
    · have hlt' : (j : Int) < 256 := by omega
      have HEnd : Hid (∀ X : World, Grw .i8 30 w (tbF k) j og oc X → _) := fun X hX => hX.push ty8 (by simp [kb]; omega)
      have HC : Hid (∀ W, _) := HF.out j hlt
      clear HF
      by_cases hb : 127 < j
      · have hb' : (127 : Int) < (j : Int) := by omega
        rw [show at8 j = (j : Int) - 256 by unfold at8; rw [if_neg (by omega)]] at HC
        go_wp2_with fail
        refine (HC.out _).mono ?_
        rintro e w4 ⟨rfl, d4, hw4⟩
        obtain ⟨g', c', X', hr1, hG⟩ := HEnd.out w4 (by rw [hw4]; exact HA.out.drew d4)
        have HG : Hid _ := hG
        clear HA HC hw4 hG HEnd
        generalize tbF k j = c at *
        go_wp2_with (at_builtin; refine Lib.wpList_append_run _ rfl _ _ _ _ rfl _ _ rfl rfl _ _ hr1 ?_)
        go_roundw
        case rel => exact ⟨j + 1, g', c', hlt, by go_num, rfl, HG.out⟩
        case measure => simp [RowKit.intOf]; omega
      · have hb' : ¬ (127 : Int) < (j : Int) := by omega
        rw [show at8 j = (j : Int) by unfold at8; rw [if_pos (by omega)]] at HC
        go_wp2_with fail
        refine (HC.out _).mono ?_
        rintro e w4 ⟨rfl, d4, hw4⟩
        obtain ⟨g', c', X', hr1, hG⟩ := HEnd.out w4 (by rw [hw4]; exact HA.out.drew d4)
        have HG : Hid _ := hG
        clear HA HC hw4 hG HEnd
        generalize tbF k j = c at *
        go_wp2_with (at_builtin; refine Lib.wpList_append_run _ rfl _ _ _ _ rfl _ _ rfl rfl _ _ hr1 ?_)
        go_roundw
        case rel => exact ⟨j + 1, g', c', hlt, by go_num, rfl, HG.out⟩
        case measure => simp [RowKit.intOf]; omega
    · obtain rfl : j = 256 := by omega
      have HX : Hid _ := HA.out.done 0
      clear HA HF
      go_wp2
      go_ret2
      exact HX.out
end Go.Proofs.YtbppahmcjifflaaDoor
