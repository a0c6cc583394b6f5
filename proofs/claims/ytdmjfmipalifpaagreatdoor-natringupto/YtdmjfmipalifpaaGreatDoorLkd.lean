/-
  Compare of rows of digits, the program's and the document's.
-/
import Derived.Test.YtdmjfmipalifpaaGreatDoorLkc
namespace Go.Proofs.YtdmjfmipalifpaaGreatDoor
open Go.RowKit

set_option maxHeartbeats 1000000 in
set_option maxRecDepth 100000 in
theorem compare_any (p q : Nat → Prop) (xv yv : Value) (X Y : List Nat) (w : World) (hx : Wd p w xv X) (hy : Wd q w yv Y) (hcx : Can X) (hcy : Can Y) :
    Calls Tryz.prog 48 #[xv, yv] w fun e w' => e = .returned (.int .i64 (cmpN (val 18446744073709551616 X) (val 18446744073709551616 Y))) ∧ Fresh w w' := by
  have hlx := hx.len
  have hly := hy.len
  have hdx := hx.dg
  have hdy := hy.dg
  obtain ⟨xa, xc, hxv⟩ := hx.shape
  obtain ⟨ya, yc, hyv⟩ := hy.shape
  by_cases hle : X.length = Y.length
  · have HX : Hid (∀ i, i < X.length → ∃ b off, xa = some ⟨b, off, none⟩ ∧ b < w.heap.size ∧ w.cell? ⟨b, off + i, none⟩ = some (.int .u64 ((X.getD i 0 : Nat) : Int))) := fun i hi => hx.at hxv i hi
    have HY : Hid (∀ i, i < Y.length → ∃ b off, ya = some ⟨b, off, none⟩ ∧ b < w.heap.size ∧ w.cell? ⟨b, off + i, none⟩ = some (.int .u64 ((Y.getD i 0 : Nat) : Int))) := fun i hi => hy.at hyv i hi
    obtain ⟨C, hC⟩ : ∃ C, C = cmpN (val 18446744073709551616 X) (val 18446744073709551616 Y) := ⟨_, rfl⟩
    rw [← hC]
    have HE : Hid (val 18446744073709551616 (X.drop 0) = val 18446744073709551616 (Y.drop 0) → C = 0) := fun h => by
      rw [List.drop_zero, List.drop_zero] at h
      rw [hC, h, cmpN_eq]
    have HL : Hid (∀ m, m < X.length → val 18446744073709551616 (X.drop (m + 1)) = val 18446744073709551616 (Y.drop (m + 1)) → X.getD m 0 < Y.getD m 0 → C = -1) := fun m hm h hd => by
      rw [hC, cmpN_lt (cmp_at (by decide) hdx hm (by omega) h hd)]
    have HG : Hid (∀ m, m < X.length → val 18446744073709551616 (X.drop (m + 1)) = val 18446744073709551616 (Y.drop (m + 1)) → Y.getD m 0 < X.getD m 0 → C = 1) := fun m hm h hd => by
      rw [hC, cmpN_gt (cmp_at (by decide) hdy (by omega) hm h.symm hd)]
    have HS : Hid (∀ m, m < X.length → val 18446744073709551616 (X.drop (m + 1)) = val 18446744073709551616 (Y.drop (m + 1)) → X.getD m 0 = Y.getD m 0 → val 18446744073709551616 (X.drop m) = val 18446744073709551616 (Y.drop m)) := fun m hm h hd => drop_step hm (by omega) h hd
    have HZ : Hid (val 18446744073709551616 (X.drop X.length) = val 18446744073709551616 (Y.drop X.length)) := by
      show _ = _
      rw [List.drop_length, hle, List.drop_length]
    have hcu := fun (a b : Nat) W => cmpU_any a b W
    have HCU : Hid (Unit → _) := fun (_ : Unit) => hcu
    subst hxv hyv
    rw [← hle] at HY ⊢
    clear hx hy hdx hdy hC hcx hcy hle hly hcu
    go_enter Tryz.func48, Tryz.ntmps48
    go_wp2_with fail
    go_loopw [5] (fun iv wr => ∃ j : Nat, j ≤ X.length ∧ iv = .int .i64 ((j : Int) - 1) ∧ Hid (val 18446744073709551616 (X.drop j) = val 18446744073709551616 (Y.drop j)) ∧ Fresh w wr) (fun iv _ => (intOf iv + 1).toNat)
    case atStart => exact ⟨X.length, Nat.le_refl _, by go_num, HZ.out, Kept.refl _ _⟩
    case round =>
      obtain ⟨j, hj, rfl, HV, hF⟩ := hrel
      rcases Nat.eq_zero_or_pos j with hz | hz
      · subst hz
        have hc0 := HE.out HV.out
        subst hc0
        have hz' : ((0 : Nat) : Int) - 1 = -1 := by omega
        have HF := show Hid _ from hF
        clear HV HE HL HG HS HZ HX HY hF
        go_wp2
        go_ret
        exact ⟨rfl, HF.out⟩
      · obtain ⟨m, rfl⟩ : ∃ m, j = m + 1 := ⟨j - 1, by omega⟩
        obtain ⟨xb, xo, rfl, hxb, hxe⟩ := HX.out m (by omega)
        obtain ⟨yb, yo, rfl, hyb, hye⟩ := HY.out m (by omega)
        have hx1 := (hF.cell (p := ⟨xb, xo + m, none⟩) hxb (fun e => e)).trans hxe
        have hy1 := (hF.cell (p := ⟨yb, yo + m, none⟩) hyb (fun e => e)).trans hye
        have hl' := HL.out m (by omega) HV.out
        have hg' := HG.out m (by omega) HV.out
        have hs' := HS.out m (by omega) HV.out
        generalize X.getD m 0 = d at *
        generalize Y.getD m 0 = e at *
        have e1 : ((m + 1 : Nat) : Int) - 1 = (m : Int) := by omega
        rw [e1]
        have hm0 : (0 : Int) ≤ (m : Int) := by omega
        have hm1 : (m : Int) < (X.length : Int) := by omega
        have HF := show Hid _ from hF
        rcases Nat.lt_trichotomy d e with hd | hd | hd
        · have hcc := hl' hd
          subst hcc
          have hne : ((d : Int) == (e : Int)) = false := by rw [beq_eq_false_iff_ne]; omega
          have hcv : cmpN d e = -1 := cmpN_lt hd
          have HCU2 : Hid (Unit → ∀ W, Calls Tryz.prog 71 #[.int .u64 (d : Int), .int .u64 (e : Int)] W fun e w' => e = .returned (.int .i64 (-1)) ∧ w' = W) := fun _ W => by
            have := HCU.out () d e W
            rw [hcv] at this
            exact this
          clear HV HE HL HG HS HZ HX HY hF hl' hg' hs' hxe hye HCU hcv
          go_wp2_with fail
          go_region
          all_goals go_wp2_with fail
          all_goals go_region_with (first | (go_at_call 71; refine (HCU2.out () _).mono ?_; rintro e X5 ⟨rfl, rfl⟩))
          all_goals go_wp2
          all_goals go_ret
          all_goals exact ⟨rfl, HF.out.drew.drew⟩
        · have hcc := hs' hd
          subst hd
          have HV2 := show Hid _ from hcc
          clear HV HE HL HG HS HZ HX HY hF hl' hg' hs' hxe hye HCU hcc
          go_wp2_with fail
          go_region
          all_goals go_wp2
          all_goals go_roundw
          all_goals first | exact ⟨m, by omega, by go_num, HV2.out, HF.out.drew⟩ | (simp [intOf]; done) | (simp [intOf]; omega)
        · have hcc := hg' hd
          subst hcc
          have hne : ((d : Int) == (e : Int)) = false := by rw [beq_eq_false_iff_ne]; omega
          have hcv : cmpN d e = 1 := cmpN_gt hd
          have HCU2 : Hid (Unit → ∀ W, Calls Tryz.prog 71 #[.int .u64 (d : Int), .int .u64 (e : Int)] W fun e w' => e = .returned (.int .i64 1) ∧ w' = W) := fun _ W => by
            have := HCU.out () d e W
            rw [hcv] at this
            exact this
          clear HV HE HL HG HS HZ HX HY hF hl' hg' hs' hxe hye HCU hcv
          go_wp2_with fail
          go_region
          all_goals go_wp2_with fail
          all_goals go_region_with (first | (go_at_call 71; refine (HCU2.out () _).mono ?_; rintro e X5 ⟨rfl, rfl⟩))
          all_goals go_wp2
          all_goals go_ret
          all_goals exact ⟨rfl, HF.out.drew.drew⟩
  · have hcmp : cmpN (val 18446744073709551616 X) (val 18446744073709551616 Y) = cmpN X.length Y.length := by
      rcases Nat.lt_or_gt_of_ne hle with h | h
      · rw [cmpN_lt h, cmpN_lt (cmp_len (by decide) hdx hcy h)]
      · rw [cmpN_gt h, cmpN_gt (cmp_len (by decide) hdy hcx h)]
    rw [hcmp]
    have hci := cmpI_any X.length Y.length w
    subst hxv hyv
    have hne : ((X.length : Int) == (Y.length : Int)) = false := by rw [beq_eq_false_iff_ne]; omega
    have HCI : Hid (Unit → _) := fun (_ : Unit) => hci
    clear hci hx hy hdx hdy hcmp
    generalize X.length = n at *
    generalize Y.length = m at *
    generalize cmpN n m = C at *
    go_enter Tryz.func48, Tryz.ntmps48
    go_wp2_with fail
    refine (HCI.out ()).mono ?_
    rintro e w1 ⟨rfl, rfl⟩
    clear HCI
    go_wp2
    go_ret
    exact ⟨rfl, Kept.refl _ _⟩
theorem natCompare_any (xv yv : Value) (M N : Nat) (w : World) (hx : Nm w xv M) (hy : Nm w yv N) :
    Calls Tryz.prog 21 #[.agg #[xv], .agg #[yv]] w fun e w' => e = .returned (.int .i64 (cmpN M N)) ∧ Fresh w w' := by
  obtain ⟨X, hX, hcX, hvX, _⟩ := hx
  obtain ⟨Y, hY, hcY, hvY, _⟩ := hy
  have ht := fun W (hF : Fresh w W) => compare_any _ _ xv yv X Y W (Dw.fresh hX hF) (Dw.fresh hY hF) hcX hcY
  rw [hvX, hvY] at ht
  obtain ⟨a, c, rfl⟩ := hX.shape
  obtain ⟨b, d, rfl⟩ := hY.shape
  have HF1 : Hid (Fresh w ((w.alloc (.cells #[.slice a X.length c] 26)).alloc (.cells #[.slice b Y.length d] 26))) := ((Kept.refl _ _).alloc _).alloc _
  have HT : Hid (Unit → _) := fun (_ : Unit) => ht
  clear ht hX hY hcX hcY hvX hvY
  generalize cmpN M N = C at *
  go_enter Tryz.func21, Tryz.ntmps21
  go_wp2_with fail
  refine (HT.out () _ HF1.out).mono ?_
  rintro e w1 ⟨rfl, hF⟩
  have HF2 : Hid (Fresh w w1) := HF1.out.trans hF (fun _ _ e => e)
  clear HT hF
  go_wp2
  go_ret
  exact ⟨rfl, HF2.out⟩
end Go.Proofs.YtdmjfmipalifpaaGreatDoor
