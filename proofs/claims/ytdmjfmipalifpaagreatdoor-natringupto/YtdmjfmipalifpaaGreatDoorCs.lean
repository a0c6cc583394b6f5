/-
  plus.
-/
import Derived.Test.YtdmjfmipalifpaaGreatDoorTa
namespace Go.Proofs.YtdmjfmipalifpaaGreatDoor
open Go.RowKit

set_option maxHeartbeats 1000000 in
set_option maxRecDepth 100000 in
theorem plus_any (xv yv : Value) (M N : Nat) (w : World) (hx : Nm w xv M) (hy : Nm w yv N) (hb : bl M + bl N ≤ 1099511627776) :
    Calls Tryz.prog 49 #[xv, yv] w fun e w' => ∃ v', e = .returned v' ∧ (Nm w' v' (M + N) ∧ Fresh w w') := by
  obtain ⟨i0, hi, hz0, hz1, hz2⟩ := info_parts Tryz.infoU
  obtain ⟨X, hX, hcX, hvX, _⟩ := hx
  obtain ⟨Y, hY, hcY, hvY, _⟩ := hy
  have hlX := nm_len hX.dg hcX
  have hlY := nm_len hY.dg hcY
  rw [hvX] at hlX
  rw [hvY] at hlY
  have hXl : X.length ≤ 17179869185 := by omega
  have hYl : Y.length ≤ 17179869185 := by omega
  have hdX := hX.dg
  have hdY := hY.dg
  obtain ⟨xa, xc, rfl⟩ := hX.shape
  obtain ⟨ya, yc, rfl⟩ := hY.shape
  have HX := show Hid _ from hX
  have HY := show Hid _ from hY
  have HV : Hid (val 18446744073709551616 X + val 18446744073709551616 Y = M + N) := by show _ = _; rw [hvX, hvY]
  obtain ⟨m, hm1, hm2, hm3⟩ : ∃ m : Nat, max (X.length : Int) (Y.length : Int) = (m : Int) ∧ X.length ≤ m ∧ Y.length ≤ m ∧ m ≤ 17179869185 := ⟨max X.length Y.length, by omega, by omega, by omega⟩
  clear hX hY hlX hlY hcX hcY hvX hvY hb
  go_enter Tryz.func49, Tryz.ntmps49
  go_wp2_with (at_make; refine wpList_make_full _ rfl _ _ _ rfl w.heap.size 71 i0 _ 1 Tryz.underlying24 hi hz0 hz1 _ _ _ _ (m + 1) rfl rfl rfl rfl (by rw [hz2]; omega) (by unfold maxLen; omega) (by omega) ?_; intro w2 hown2 hgrow2)
  have hk2 : Fresh w w2 := (Kept.refl _ w).grown hgrow2 (fun k _ e => by cases e)
  rw [show (Value.int .u64 0).cells = #[.int .u64 0] from rfl, Nat.mul_one, madeZeros] at hown2
  obtain ⟨S, hO2, _, _, _, _⟩ := ow_of_own hown2
  have HO2 := show Hid _ from hO2
  clear hgrow2 hown2 hO2
  go_loopw [7, 18] (fun cv iv wr => ∃ (Z : List Nat) (c : Nat), Z.length ≤ m ∧ iv = .int .i64 (Z.length : Int) ∧ cv = .int .u64 (c : Int) ∧ c ≤ 1 ∧ Dg 18446744073709551616 Z ∧ Hid (val 18446744073709551616 Z + 18446744073709551616 ^ Z.length * c = val 18446744073709551616 (X.take Z.length) + val 18446744073709551616 (Y.take Z.length)) ∧ Hid (Ow 71 .u64 wr w.heap.size [] (Z ++ (List.replicate (m + 1) 0).drop Z.length) S) ∧ Fresh w wr) (fun _ iv _ => m - (intOf iv).toNat)
  case atStart => exact ⟨[], 0, by simp, rfl, rfl, by omega, Dg.nil _, by simp [Hid, val], HO2, hk2⟩
  case round =>
    obtain ⟨Z, c, hZ, rfl, rfl, hc, hdZ, HVZ, HO, hF⟩ := hrel
    have hO := HO.out
    by_cases hlt : Z.length < m
    · have hat1 := at_any _ _ X Z.length wr (Dw.fresh HX.out hF) (by omega)
      have hat2 := at_any _ _ Y Z.length wr (Dw.fresh HY.out hF) (by omega)
      have hxd := Dg.getD (by omega) hdX Z.length
      have hyd := Dg.getD (by omega) hdY Z.length
      have hstep := sum_step HVZ.out
      have hcu := hO.cell Z.length (by simp; omega)
      rw [getD_next, List.length_nil, Nat.zero_add] at hcu
      have hfu := hO.free Z.length
      have hadd := fun W => add64_run (X.getD Z.length 0) (Y.getD Z.length 0) c hc W
      have hset := hO.set Z.length ((X.getD Z.length 0 + Y.getD Z.length 0 + c) % 18446744073709551616) (by simp; omega)
      rw [set_next _ _ _ (by simp; omega), List.length_nil, Nat.zero_add] at hset
      obtain ⟨D, hD⟩ : ∃ x, x = X.getD Z.length 0 := ⟨_, rfl⟩
      obtain ⟨E, hE⟩ : ∃ x, x = Y.getD Z.length 0 := ⟨_, rfl⟩
      rw [← hD] at hat1 hxd hstep hadd hset
      rw [← hE] at hat2 hyd hstep hadd hset
      obtain ⟨R, hR⟩ : ∃ x, x = (D + E + c) % 18446744073709551616 := ⟨_, rfl⟩
      obtain ⟨Q, hQ⟩ : ∃ x, x = (D + E + c) / 18446744073709551616 := ⟨_, rfl⟩
      rw [← hR, ← hQ] at hstep hadd
      rw [← hR] at hset
      have hQ1 : Q ≤ 1 := by omega
      have hRl : R < 18446744073709551616 := by omega
      have HS := show Hid _ from hstep
      have HSET := show Hid _ from hset
      have HK : Hid (Fresh w (wr.setCell ⟨w.heap.size, Z.length, none⟩ (.int .u64 (R : Int)))) := hF.setCell (p := ⟨w.heap.size, Z.length, none⟩) (fun e => by simp at e) _
      have HDZ := show Hid _ from hdZ.append (Dg.one hRl)
      have hj0 : (0 : Int) ≤ (Z.length : Int) := by omega
      have hj1 : (Z.length : Int) < ((m + 1 : Nat) : Int) := by omega
      have hj2 : (Z.length : Int) < (m : Int) := by omega
      generalize ((List.replicate (m + 1) 0).getD Z.length 0 : Nat) = OLD at *
      clear hset hstep hO HO HVZ hR hQ hD hE hdZ hF
      go_wp2_with fail
      refine hat1.mono ?_
      rintro e w3 ⟨rfl, rfl⟩
      go_wp2_with fail
      refine hat2.mono ?_
      rintro e w4 ⟨rfl, rfl⟩
      go_wp2
      go_roundw
      case rel => exact ⟨Z ++ [R], Q, by simp; omega, by simp, rfl, hQ1, HDZ.out, by rw [List.length_append, List.length_singleton] at HS ⊢; exact HS, by rw [List.length_append, List.length_singleton]; exact HSET, HK.out⟩
      case measure => simp [intOf]; omega
    · obtain hZm : Z.length = m := by omega
      have hv := HVZ.out
      rw [hZm, val_take_all _ _ _ hm2, val_take_all _ _ _ hm3.1, HV.out] at hv
      have hcu := hO.cell Z.length (by simp; omega)
      rw [getD_next, List.length_nil, Nat.zero_add, hZm] at hcu
      have hfu := hO.free m
      have hset := hO.set Z.length c (by simp; omega)
      rw [set_next _ _ _ (by simp; omega), List.length_nil, Nat.zero_add, List.drop_of_length_le (by simp; omega), List.append_nil, hZm] at hset
      have hF2 : Fresh w (wr.setCell ⟨w.heap.size, m, none⟩ (.int .u64 (c : Int))) := hF.setCell (p := ⟨w.heap.size, m, none⟩) (fun e => by simp at e) _
      have hdN : Dg 18446744073709551616 (Z ++ [c]) := hdZ.append (Dg.one (by omega))
      have hvN : val 18446744073709551616 (Z ++ [c]) = M + N := by rw [val_snoc, hZm]; exact hv
      have hD := Ow.dw (B := 18446744073709551616) (cap := m + 1) hset hdN (by simp; omega) (by simp; omega) (by omega)
      rw [List.length_append, List.length_singleton, hZm, List.length_nil] at hD
      have ht := trim_any _ _ _ _ hD
      have HU := show Hid _ from Ow.isU hset
      have HF := show Hid _ from hF2
      have HN := show Hid _ from hvN
      have hj0 : (0 : Int) ≤ (m : Int) := by omega
      have hj1 : (m : Int) < ((m + 1 : Nat) : Int) := by omega
      generalize ((List.replicate (m + 1) 0).getD m 0 : Nat) = OLD at *
      rw [hZm]
      clear hD hset hO HO HVZ hv hF2 hF hvN hdN
      go_wp2_with fail
      refine ht.mono ?_
      rintro e w4 ⟨v', rfl, hT, rfl⟩
      have hN := nm_of_trim hT HU.out
      rw [HN.out] at hN
      have HN2 := show Hid _ from hN
      clear hT hN ht
      go_wp2
      go_ret
      exact ⟨_, rfl, HN2.out, HF.out⟩
end Go.Proofs.YtdmjfmipalifpaaGreatDoor
