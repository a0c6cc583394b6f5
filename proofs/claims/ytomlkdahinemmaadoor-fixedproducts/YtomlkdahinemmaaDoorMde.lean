/-
  The document's product of two words, by eight digits.
-/
import Derived.Test.YtomlkdahinemmaaDoorMdd
import Derived.BigQuiet
import Derived.Deep.QuietTactic
namespace Go.Proofs.YtomlkdahinemmaaDoor
open Go.RowKit

abbrev Fresh' (w : World) (b : Nat) (w' : World) : Prop := Kept (only b) w w'
/-- What product answers. -/
def PrO (w' : World) (P : Nat) (v : Value) : Prop := ∃ Z, Z.length = 8 ∧ val 65536 Z = P ∧ Qd w' v Z

set_option maxHeartbeats 2000000 in
set_option maxRecDepth 100000 in
theorem refProduct_any (a b : Nat) (w : World) (ha : a < 18446744073709551616) (hb : b < 18446744073709551616) :
    Calls Tryd.prog 30 #[.int .u64 a, .int .u64 b] w fun e w' => ∃ v', e = .returned v' ∧ (PrO w' (a * b) v' ∧ Fresh w w') := by
  obtain ⟨i0, hi, hz0, hz1, hz2⟩ := info_parts Tryd.infoU
  have hda := fun W => refDigits_any a W ha
  have hdb := fun W => refDigits_any b W hb
  obtain ⟨P, hP⟩ : ∃ P, P = a * b := ⟨_, rfl⟩
  rw [← hP]
  have HP := show Hid _ from hP
  clear hP
  go_enter Tryd.func30, Tryd.ntmps30
  go_wp2_with (at_make; refine wpList_make_full _ rfl _ _ _ rfl w.heap.size 47 i0 _ 1 Tryd.underlying54 hi hz0 hz1 _ _ _ _ 8 rfl rfl rfl rfl (by rw [hz2]; omega) (by unfold maxLen; omega) (by omega) ?_; intro w2 hown2 hgrow2)
  have hk2 : Fresh w w2 := (Kept.refl _ w).grown hgrow2 (fun k _ e => by cases e)
  rw [show (Value.int .u64 0).cells = #[.int .u64 0] from rfl, Nat.mul_one, madeZeros] at hown2
  obtain ⟨S, hO2, _, _, _, _⟩ := ow_of_own hown2
  have HO2 := show Hid _ from hO2
  clear hgrow2 hown2 hO2
  refine (hda _).mono ?_
  rintro e w3 ⟨v3, rfl, ⟨X, hX4, hvX, hX⟩, hF3⟩
  go_wp2_with fail
  refine (hdb _).mono ?_
  rintro e w4 ⟨v4, rfl, ⟨Y, hY4, hvY, hY⟩, hF4⟩
  have hX := Dw.fresh hX hF4
  have hk4 : Fresh w w4 := (hk2.trans hF3 (fun _ _ e => e)).trans hF4 (fun _ _ e => e)
  have HO4 := show Hid _ from (Ow.kept (Ow.kept HO2.out hF3 (fun e => e)) hF4 (fun e => e))
  have hdX := hX.dg
  have hdY := hY.dg
  obtain ⟨xa, xc, rfl, _, _, hxc, _⟩ := hX
  obtain ⟨ya, yc, rfl, _, _, hyc, _⟩ := hY
  obtain ⟨xb, xo, rfl, hxg, hxb, hxe⟩ := hxc (fun e => by rw [e] at hX4; simp at hX4)
  obtain ⟨yb, yo, rfl, hyg, hyb, hye⟩ := hyc (fun e => by rw [e] at hY4; simp at hY4)
  rw [hX4] at hxe
  rw [hY4] at hye
  have HXE := show Hid _ from hxe
  have HYE := show Hid _ from hye
  have HV : Hid (val 65536 X * val 65536 Y = P) := by show _ = _; rw [hvX, hvY, HP.out]
  have hw2 := Ow.lt HO2.out
  have hw3 := hF3.size
  have hxn : xb ≠ w.heap.size := by omega
  have hyn : yb ≠ w.heap.size := by omega
  clear hda hdb HO2 hF3 hF4 hk2 hxc hyc hxe hye hvX hvY
  rw [hX4, hY4]
  go_wp2_with fail
  go_loopw [19] (fun c wr => ∃ i : Nat, i ≤ 4 ∧ c = .int .i64 (i : Int) ∧ ∃ Z : List Nat, Z.length = 8 ∧ Dg 65536 Z ∧ Hid (val 65536 Z = val 65536 (X.take i) * val 65536 Y) ∧ Hid (Ow 47 .u64 wr w.heap.size [] Z S) ∧ Fresh w wr ∧ Fresh' w4 w.heap.size wr) (fun c _ => 4 - (intOf c).toNat)
  case atStart => exact ⟨0, by omega, rfl, List.replicate 8 0, by simp, Dg.zeros (by omega) _, by simp [Hid, val], HO4, hk4, Kept.refl _ _⟩
  case round =>
    obtain ⟨i, hi4, rfl, Z, hZl, hdZ, HVZ, HO, hF, hK⟩ := hrel
    by_cases hlt : i < 4
    · have hxd := Dg.getD (by omega) hdX i
      obtain ⟨D, hD⟩ : ∃ D, D = X.getD i 0 := ⟨_, rfl⟩
      have hxcell := HXE.out i hlt
      rw [← hD] at hxcell hxd
      have HXT : Hid (val 65536 (X.take (i + 1)) = val 65536 (X.take i) + 65536 ^ i * D) := by rw [hD]; exact val_take_succ _ _ _
      have HZ0 : Hid (Z.getD (i + 4) 0 = 0) := by
        refine getD_zero (B := 65536) (by omega) hdZ ?_
        have h1 := val_lt (B := 65536) (by omega) (hdX.take i)
        have h2 := val_lt (B := 65536) (by omega) hdY
        rw [List.length_take, Nat.min_eq_left (by omega)] at h1
        rw [hY4] at h2
        rw [HVZ.out, Nat.pow_add]
        exact Nat.mul_lt_mul'' h1 h2
      clear hD
      go_wp2_with fail
      go_loopw [9, 24] (fun cv jv wq => ∃ (j c : Nat) (Z' : List Nat), j ≤ 4 ∧ jv = .int .i64 (j : Int) ∧ cv = .int .u64 (c : Int) ∧ c < 65536 ∧ Z'.length = 8 ∧ Dg 65536 Z' ∧ Hid (val 65536 Z' + 65536 ^ (i + j) * c = val 65536 Z + 65536 ^ i * (D * val 65536 (Y.take j))) ∧ Hid (Ow 47 .u64 wq w.heap.size [] Z' S) ∧ Fresh w wq ∧ Fresh' w4 w.heap.size wq ∧ Hid (Z'.getD (i + 4) 0 = 0)) (fun _ jv _ => 4 - (intOf jv).toNat)
      case atStart => exact ⟨0, 0, Z, by omega, rfl, rfl, by omega, hZl, hdZ, by simp [Hid, val], HO, hF, hK, HZ0⟩
      case round =>
        clear HO hF hdZ hK HZ0
        obtain ⟨j, c, Z', hj4, rfl, rfl, hc, hZ'l, hdZ', HVI, HO, hF, hK, HZ'⟩ := hrel
        have hO := HO.out
        by_cases hjl : j < 4
        · have hoc := hO.cell (i + j) (by omega)
          rw [List.length_nil, Nat.zero_add] at hoc
          have hof := hO.free (i + j)
          have hxq : wr.cell? ⟨xb, xo + i, none⟩ = some (.int .u64 (D : Int)) := (hK.cell (p := ⟨xb, xo + i, none⟩) hxb hxn).trans hxcell
          have hyq : wr.cell? ⟨yb, yo + j, none⟩ = some (.int .u64 ((Y.getD j 0 : Nat) : Int)) := (hK.cell (p := ⟨yb, yo + j, none⟩) hyb hyn).trans (HYE.out j hjl)
          have hyd := Dg.getD (by omega) hdY j
          have hzd := Dg.getD (by omega) hdZ' (i + j)
          have hin := md_inner (B := 65536) (x := D) (y := Y.getD j 0) (k := i + j) (by omega) HVI.out rfl
          rw [show val 65536 Z + 65536 ^ i * (D * val 65536 (Y.take j)) + 65536 ^ (i + j) * (D * Y.getD j 0) = val 65536 Z + 65536 ^ i * (D * val 65536 (Y.take (j + 1))) by
            rw [val_take_succ, Nat.mul_add D, Nat.mul_add (65536 ^ i), Nat.pow_add, Nat.add_assoc]
            congr 2
            rw [Nat.mul_assoc, Nat.mul_left_comm D]] at hin
          have hroom := mul_room hzd hxd hyd hc
          have hset := hO.set (i + j) ((Z'.getD (i + j) 0 + D * Y.getD j 0 + c) % 65536) (by omega)
          rw [List.length_nil, Nat.zero_add] at hset
          obtain ⟨OZ, hOZ⟩ : ∃ x, x = Z'.getD (i + j) 0 := ⟨_, rfl⟩
          obtain ⟨E, hE⟩ : ∃ x, x = Y.getD j 0 := ⟨_, rfl⟩
          rw [← hOZ] at hoc hzd hin hroom hset
          rw [← hE] at hyq hyd hin hroom hset
          obtain ⟨PP, hPP⟩ : ∃ x, x = D * E := ⟨_, rfl⟩
          rw [← hPP] at hin hroom hset
          obtain ⟨T, hT⟩ : ∃ x, x = OZ + PP + c := ⟨_, rfl⟩
          rw [← hT] at hin hroom hset
          obtain ⟨R, hR⟩ : ∃ x, x = T % 65536 := ⟨_, rfl⟩
          obtain ⟨Q, hQ⟩ : ∃ x, x = T / 65536 := ⟨_, rfl⟩
          rw [← hR, ← hQ] at hin
          rw [← hR] at hset
          have c1 : (D : Int) * (E : Int) = (PP : Int) := by rw [hPP]; simp
          have c2 : (OZ : Int) + (PP : Int) + (c : Int) = (T : Int) := by omega
          have c3 : (T : Int) % 65536 = (R : Int) := by rw [hR]; simp
          have c5 : (T : Int) / 65536 = (Q : Int) := by rw [hQ]; simp
          have hRl : R < 65536 := by omega
          have hQl : Q < 65536 := by omega
          have HIN : Hid (val 65536 (Z'.set (i + j) R) + 65536 ^ (i + (j + 1)) * Q = val 65536 Z + 65536 ^ i * (D * val 65536 (Y.take (j + 1)))) := hin
          have hdN : Dg 65536 (Z'.set (i + j) R) := hdZ'.set _ hRl
          have hj0 : (0 : Int) ≤ (i : Int) := by omega
          have hj1 : (i : Int) < 4 := by omega
          have hj2 : (0 : Int) ≤ (i : Int) + (j : Int) := by omega
          have hj3 : (i : Int) + (j : Int) < 8 := by omega
          have hj4' : (0 : Int) ≤ (j : Int) := by omega
          have hj5 : (j : Int) < 4 := by omega
          have hPl : PP ≤ 65535 * 65535 := by rw [hPP]; exact Nat.mul_le_mul (by omega) (by omega)
          have hslen : (Z'.set (i + j) R).length = 8 := by rw [List.length_set]; exact hZ'l
          have hoc' : ∀ n, (wr.drewN n).cell? ⟨w.heap.size, i + j, none⟩ = some (.int .u64 (OZ : Int)) := fun n => by rw [World.cell?_drewN]; exact hoc
          have hof' : ∀ n, (wr.drewN n).frozen? ⟨w.heap.size, i + j, none⟩ = false := fun n => by rw [World.frozen?_drewN]; exact hof
          have hxq' : ∀ n, (wr.drewN n).cell? ⟨xb, xo + i, none⟩ = some (.int .u64 (D : Int)) := fun n => by rw [World.cell?_drewN]; exact hxq
          have hyq' : ∀ n, (wr.drewN n).cell? ⟨yb, yo + j, none⟩ = some (.int .u64 (E : Int)) := fun n => by rw [World.cell?_drewN]; exact hyq
          have HSET : Hid (∀ n, Ow 47 .u64 ((wr.drewN n).setCell ⟨w.heap.size, i + j, none⟩ (.int .u64 (R : Int))) w.heap.size [] (Z'.set (i + j) R) S) := fun n => hset
          have HF : Hid (∀ n, Fresh w ((wr.drewN n).setCell ⟨w.heap.size, i + j, none⟩ (.int .u64 (R : Int)))) := fun n => Kept.setCell (show Fresh w (wr.drewN n) from ⟨hF.os, hF.tape, hF.output, hF.size, hF.block⟩) (p := ⟨w.heap.size, i + j, none⟩) (fun e => by simp at e) _
          have HK : Hid (∀ n, Fresh' w4 w.heap.size ((wr.drewN n).setCell ⟨w.heap.size, i + j, none⟩ (.int .u64 (R : Int)))) := fun n => Kept.setCell (show Fresh' w4 w.heap.size (wr.drewN n) from ⟨hK.os, hK.tape, hK.output, hK.size, hK.block⟩) (p := ⟨w.heap.size, i + j, none⟩) (fun _ => rfl) _
          have HZ2 : Hid ((Z'.set (i + j) R).getD (i + 4) 0 = 0) := by
            show _ = _
            rw [List.getD_eq_getElem?_getD, List.getElem?_set_ne (by omega), ← List.getD_eq_getElem?_getD]
            exact HZ'.out
          generalize Z'.set (i + j) R = Z2 at *
          clear hin hset hO HO hT hPP hR hQ hOZ hE HVI hdZ' hF hoc hof hxq hyq hK
          go_wp2
          go_quiet (fail)
          go_wp2
          go_roundw
          case rel => exact ⟨j + 1, Q, Z2, by omega, by go_num, rfl, hQl, hslen, hdN, HIN, HSET.out _, HF.out _, HK.out _, HZ2⟩
          case measure => simp [intOf]; omega
        · obtain rfl : j = 4 := by omega
          have hv := HVI.out
          rw [val_take_all _ _ _ (show Y.length ≤ 4 by omega)] at hv
          have htot := md_bound hv HVZ.out
          rw [← HXT.out] at htot
          have hz0 := HZ'.out
          have hoc := hO.cell (i + 4) (by omega)
          rw [List.length_nil, Nat.zero_add, hz0] at hoc
          have hof := hO.free (i + 4)
          have hset := hO.set (i + 4) c (by omega)
          rw [List.length_nil, Nat.zero_add] at hset
          have hvs := val_set 65536 Z' (i + 4) c (by omega)
          rw [hz0, Nat.mul_zero, Nat.add_zero, htot] at hvs
          have HVN : Hid (val 65536 (Z'.set (i + 4) c) = val 65536 (X.take (i + 1)) * val 65536 Y) := hvs
          have hdN : Dg 65536 (Z'.set (i + 4) c) := hdZ'.set _ hc
          have hslen : (Z'.set (i + 4) c).length = 8 := by rw [List.length_set]; exact hZ'l
          have HF : Hid (Fresh w (wr.setCell ⟨w.heap.size, i + 4, none⟩ (.int .u64 (c : Int)))) := hF.setCell (p := ⟨w.heap.size, i + 4, none⟩) (fun e => by simp at e) _
          have HK : Hid (Fresh' w4 w.heap.size (wr.setCell ⟨w.heap.size, i + 4, none⟩ (.int .u64 (c : Int)))) := Kept.setCell hK (p := ⟨w.heap.size, i + 4, none⟩) (fun _ => rfl) _
          have HSET := show Hid _ from hset
          have hj2 : (0 : Int) ≤ (i : Int) + 4 := by omega
          have hj3 : (i : Int) + 4 < 8 := by omega
          have e0 : ((0 : Nat) : Int) = 0 := rfl
          rw [e0] at hoc
          generalize Z'.set (i + 4) c = Z2 at *
          rw [show ((4 : Nat) : Int) = 4 from rfl]
          clear hset hO HO HVI hdZ' hF hK hv htot hvs HVZ hz0
          go_wp2
          go_roundw
          case rel => exact ⟨i + 1, by omega, by go_num, Z2, hslen, hdN, HVN, HSET, HF.out, HK.out⟩
          case measure => simp [intOf]; omega
    · obtain rfl : i = 4 := by omega
      have hv := HVZ.out
      rw [List.take_of_length_le (by omega), HV.out] at hv
      have hD := Ow.dw (B := 65536) (cap := 8) HO.out hdZ (by omega) (by omega) (by omega)
      rw [hZl, List.length_nil] at hD
      have HR : Hid (PrO wr P (.slice (some ⟨w.heap.size, 0, none⟩) 8 8)) := ⟨Z, hZl, hv, Dw.mono hD (fun _ _ _ => trivial)⟩
      have HF := show Hid _ from hF
      rw [show ((4 : Nat) : Int) = 4 from rfl]
      clear hD hv hF HO HVZ hdZ
      go_wp2
      go_ret
      exact ⟨_, rfl, HR.out, HF.out⟩
end Go.Proofs.YtomlkdahinemmaaDoor
