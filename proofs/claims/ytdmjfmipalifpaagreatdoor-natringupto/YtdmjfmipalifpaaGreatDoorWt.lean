/-
  Products of numbers: times, timesWord.
-/
import Derived.Test.YtdmjfmipalifpaaGreatDoorWq
namespace Go.Proofs.YtdmjfmipalifpaaGreatDoor
open Go.RowKit

set_option maxHeartbeats 1000000 in
set_option maxRecDepth 100000 in
theorem times_any (xv yv : Value) (M N : Nat) (w : World) (hx : Nm w xv M) (hy : Nm w yv N) (hb : bl M + bl N ≤ 1099511627776) :
    Calls Tryz.prog 55 #[xv, yv] w fun e w' => ∃ v', e = .returned v' ∧ (Nm w' v' (M * N) ∧ Fresh w w') := by
  obtain ⟨i0, hi, hz0, hz1, hz2⟩ := info_parts Tryz.infoU
  obtain ⟨X, hX, hcX, hvX, _⟩ := hx
  obtain ⟨Y, hY, hcY, hvY, _⟩ := hy
  have hlX := nm_len hX.dg hcX
  have hlY := nm_len hY.dg hcY
  rw [hvX] at hlX
  rw [hvY] at hlY
  have hXl : X.length + Y.length ≤ 34359738370 := by omega
  have hdX := hX.dg
  have hdY := hY.dg
  obtain ⟨xa, xc, rfl⟩ := hX.shape
  obtain ⟨ya, yc, rfl, _, _, hyc, _⟩ := hY
  have hX' : Wd (fun k => k < w.heap.size) w (.slice xa X.length xc) X := Dw.mono hX (fun b hb _ => hb)
  have HX := show Hid _ from hX'
  have HV : Hid (val 18446744073709551616 X * val 18446744073709551616 Y = M * N) := by show _ = _; rw [hvX, hvY]
  clear hX hX' hlX hlY hcX hcY hvX hvY hb
  go_enter Tryz.func55, Tryz.ntmps55
  go_wp2_with (at_make; refine wpList_make_full _ rfl _ _ _ rfl w.heap.size 71 i0 _ 1 Tryz.underlying24 hi hz0 hz1 _ _ _ _ (X.length + Y.length) rfl rfl rfl rfl (by rw [hz2]; omega) (by unfold maxLen; omega) (by omega) ?_; intro w2 hown2 hgrow2)
  have hk2 : Fresh w w2 := (Kept.refl _ w).grown hgrow2 (fun k _ e => by cases e)
  rw [show (Value.int .u64 0).cells = #[.int .u64 0] from rfl, Nat.mul_one, madeZeros] at hown2
  obtain ⟨S, hO2, _, _, _, _⟩ := ow_of_own hown2
  have HO2 := show Hid _ from hO2
  clear hgrow2 hown2 hO2
  go_loopw [16] (fun c wr => ∃ j : Nat, j ≤ Y.length ∧ c = .int .i64 (j : Int) ∧ ∃ Z : List Nat, Z.length = X.length + Y.length ∧ Dg 18446744073709551616 Z ∧ Hid (val 18446744073709551616 Z = val 18446744073709551616 X * val 18446744073709551616 (Y.take j)) ∧ Hid (Ow 71 .u64 wr w.heap.size [] Z S) ∧ Fresh w wr) (fun c _ => Y.length - (intOf c).toNat)
  case atStart => exact ⟨0, by omega, rfl, List.replicate (X.length + Y.length) 0, by simp, Dg.zeros (by omega) _, by simp [Hid, val, val_zeros], HO2, hk2⟩
  case round =>
    obtain ⟨j, hj, rfl, Z, hZl, hdZ, HVZ, HO, hF⟩ := hrel
    by_cases hlt : j < Y.length
    · obtain ⟨yb, yo, rfl, _, hyb, hce⟩ := hyc (fun e => by rw [e] at hlt; simp at hlt)
      have hcu : wr.cell? ⟨yb, yo + j, none⟩ = some (.int .u64 ((Y.getD j 0 : Nat) : Int)) := (hF.cell (p := ⟨yb, yo + j, none⟩) hyb (fun e => e)).trans (hce j hlt)
      have hyd := Dg.getD (by omega) hdY j
      have hsp := Ow.split HO.out j (X.length + 1)
      have hAl : ([] ++ (Z.take j).map (fun d : Nat => Value.int .u64 (d : Int)) : List Value).length = j := by simp; omega
      have hpl : ((Z.drop j).take (X.length + 1)).length = X.length + 1 := by simp; omega
      have hadd := fun cap => addTimes_any (fun k => k < w.heap.size) w.heap.size cap _ _ _ X (.slice xa X.length xc) (Y.getD j 0) wr hsp ((hdZ.drop j).take _) (by omega) (Dw.fresh HX.out hF) (by omega) hyd
      rw [hAl, hpl] at hadd
      have hj0 : (0 : Int) ≤ (j : Int) := by omega
      have hj1 : (j : Int) < (Y.length : Int) := by omega
      have hs1 : (j : Int) ≤ (j : Int) + (X.length : Int) + 1 := by omega
      have hs2 : (j : Int) + (X.length : Int) + 1 ≤ ((X.length + Y.length : Nat) : Int) := by omega
      clear hsp hce hyc
      have HV1 : Hid (∀ (P : List Nat) (o : Nat), P.length = X.length + 1 → val 18446744073709551616 P + 18446744073709551616 ^ (X.length + 1) * o = val 18446744073709551616 ((Z.drop j).take (X.length + 1)) + Y.getD j 0 * val 18446744073709551616 (X.take (X.length + 1)) → val 18446744073709551616 (Z.take j ++ P ++ Z.drop (j + (X.length + 1))) = val 18446744073709551616 X * val 18446744073709551616 (Y.take (j + 1))) := by
        intro P o h1 h2
        rw [List.take_of_length_le (show X.length ≤ X.length + 1 by omega)] at h2
        rw [val_take_succ]
        exact times_step (by omega) hdX hdY (by omega) HVZ.out (by omega) hyd h1 h2
      generalize Y.getD j 0 = D at *
      go_wp2_with fail
      rw [show j + X.length + 1 - j = X.length + 1 by omega]
      refine (hadd _).mono ?_
      rintro e w3 ⟨o, rfl, P, hP, hdP, hvP, ho, hO3, hK3⟩
      rw [hpl] at hP hvP
      have h1 := HV1.out P o hP hvP
      have h2 := Ow.join hO3
      have hF3 : Fresh w w3 := hF.trans hK3 (fun i hi e => by have e' : i = w.heap.size := e; omega)
      have HR : Hid (∃ Z : List Nat, Z.length = X.length + Y.length ∧ Dg 18446744073709551616 Z ∧ Hid (val 18446744073709551616 Z = val 18446744073709551616 X * val 18446744073709551616 (Y.take (j + 1))) ∧ Hid (Ow 71 .u64 w3 w.heap.size [] Z S) ∧ Fresh w w3) :=
        ⟨_, by simp; omega, ((hdZ.take j).append hdP).append (hdZ.drop _), h1, h2, hF3⟩
      clear hvP hO3 hK3 h1 h2 hadd HV1
      go_wp2
      go_roundw
      case rel => exact ⟨j + 1, by omega, by go_num, HR.out⟩
      case measure => simp [intOf]; omega
    · obtain rfl : j = Y.length := by omega
      have hv := HVZ.out
      rw [List.take_of_length_le (Nat.le_refl _), HV.out] at hv
      have hD := Ow.dw (B := 18446744073709551616) (cap := X.length + Y.length) HO.out hdZ (by omega) (by omega) (by omega)
      rw [hZl] at hD
      have ht := trim_any _ _ _ _ hD
      have HF := show Hid _ from hF
      have HU := show Hid _ from Ow.isU HO.out
      have HVV : Hid (val 18446744073709551616 Z = M * N) := hv
      clear hD hv hF HO HVZ hdZ hyc
      go_wp2_with fail
      refine ht.mono ?_
      rintro e w3 ⟨v', rfl, hT, rfl⟩
      have hN := nm_of_trim hT HU.out
      rw [HVV.out] at hN
      have HN := show Hid _ from hN
      clear hT hN
      go_wp2
      go_ret
      exact ⟨_, rfl, HN.out, HF.out⟩
end Go.Proofs.YtdmjfmipalifpaaGreatDoor
