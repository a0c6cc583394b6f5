/-
  The document's numbers: Mul.
-/
import Derived.Test.YtdmjfmipalifpaaGreatDoorRfc
namespace Go.Proofs.YtdmjfmipalifpaaGreatDoor
open Go.RowKit

/-- The inner step of a product. -/
theorem mul_inner {B : Nat} {Z : List Nat} {k x y c V T : Nat} (hk : k < Z.length) (h : val B Z + B ^ k * c = V) (hT : T = V + B ^ k * (x * y)) :
    val B (Z.set k ((Z.getD k 0 + x * y + c) % B)) + B ^ (k + 1) * ((Z.getD k 0 + x * y + c) / B) = T := by
  have h1 := val_set B Z k ((Z.getD k 0 + x * y + c) % B) hk
  have e := Nat.mod_add_div (Z.getD k 0 + x * y + c) B
  have e2 := congrArg (B ^ k * ·) e
  simp only [Nat.mul_add] at e2
  rw [Nat.pow_succ, Nat.mul_assoc]
  generalize B ^ k * ((Z.getD k 0 + x * y + c) % B) = p1 at *
  generalize B ^ k * (B * ((Z.getD k 0 + x * y + c) / B)) = p2 at *
  generalize B ^ k * Z.getD k 0 = p3 at *
  generalize B ^ k * (x * y) = p4 at *
  generalize B ^ k * c = p5 at *
  omega

set_option maxHeartbeats 2000000 in
set_option maxRecDepth 100000 in
theorem refMul_any (xv yv : Value) (M N : Nat) (w : World) (hx : Rn w xv M) (hy : Rn w yv N) (hb : bl M + bl N ≤ 1099511627776) :
    Calls Tryz.prog 40 #[xv, yv] w fun e w' => ∃ v', e = .returned v' ∧ (Rn w' v' (M * N) ∧ Fresh w w') := by
  obtain ⟨i0, hi, hz0, hz1, hz2⟩ := info_parts Tryz.infoI
  obtain ⟨X, hX, hcX, hvX⟩ := hx
  obtain ⟨Y, hY, hcY, hvY⟩ := hy
  have hlX := rn_len hX.dg hcX
  have hlY := rn_len hY.dg hcY
  rw [hvX] at hlX
  rw [hvY] at hlY
  have hXl : X.length + Y.length ≤ 137438953472 := by omega
  have hdX := hX.dg
  have hdY := hY.dg
  obtain ⟨ya, yc, rfl⟩ := hY.shape
  obtain ⟨xa, xc, rfl, _, _, hxc, _⟩ := hX
  have HY := show Hid _ from hY
  have HV : Hid (val 65536 X * val 65536 Y = M * N) := by show _ = _; rw [hvX, hvY]
  clear hY hlX hlY hcX hcY hvX hvY hb
  go_enter Tryz.func40, Tryz.ntmps40
  go_wp2_with (at_make; refine wpList_make_full _ rfl _ _ _ rfl w.heap.size 3 i0 _ 1 Tryz.underlying31 hi hz0 hz1 _ _ _ _ (X.length + Y.length) rfl rfl rfl rfl (by rw [hz2]; omega) (by unfold maxLen; omega) (by omega) ?_; intro w2 hown2 hgrow2)
  have hk2 : Fresh w w2 := (Kept.refl _ w).grown hgrow2 (fun k _ e => by cases e)
  rw [show (Value.int .i64 0).cells = #[.int .i64 0] from rfl, Nat.mul_one, madeZeros] at hown2
  obtain ⟨S, hO2, _, _, _, _⟩ := ow_of_own hown2
  have HO2 := show Hid _ from hO2
  clear hgrow2 hown2 hO2
  go_loopw [18] (fun c wr => ∃ i : Nat, i ≤ X.length ∧ c = .int .i64 (i : Int) ∧ ∃ Z : List Nat, Z.length = X.length + Y.length ∧ Dg 65536 Z ∧ Hid (val 65536 Z = val 65536 (X.take i) * val 65536 Y) ∧ Hid (Ow 3 .i64 wr w.heap.size [] Z S) ∧ Fresh w wr) (fun c _ => X.length - (intOf c).toNat)
  case atStart => exact ⟨0, by omega, rfl, List.replicate (X.length + Y.length) 0, by simp, Dg.zeros (by omega) _, by simp [Hid, val, val_zeros], HO2, hk2⟩
  case round =>
    obtain ⟨i, hi', rfl, Z, hZl, hdZ, HVZ, HO, hF⟩ := hrel
    by_cases hlt : i < X.length
    · obtain ⟨xb, xo, rfl, _, hxb, hce⟩ := hxc (fun e => by rw [e] at hlt; simp at hlt)
      have hxcell := hce i hlt
      have hxd := Dg.getD (by omega) hdX i
      obtain ⟨D, hD⟩ : ∃ D, D = X.getD i 0 := ⟨_, rfl⟩
      rw [← hD] at hxcell hxd
      have HXT : Hid (val 65536 (X.take (i + 1)) = val 65536 (X.take i) + 65536 ^ i * D) := by rw [hD]; exact val_take_succ _ _ _
      clear hce hD
      go_wp2_with fail
      go_loopw [7, 8] (fun cv jv wq => ∃ (j c : Nat) (Z' : List Nat), jv = .int .i64 (j : Int) ∧ cv = .int .i64 (c : Int) ∧ c < 65536 ∧ i + j ≤ X.length + Y.length ∧ Z'.length = X.length + Y.length ∧ Dg 65536 Z' ∧ Hid (val 65536 Z' + 65536 ^ (i + j) * c = val 65536 Z + 65536 ^ i * (D * val 65536 (Y.take j))) ∧ Hid (Ow 3 .i64 wq w.heap.size [] Z' S) ∧ Fresh w wq) (fun _ jv _ => X.length + Y.length + 1 - (intOf jv).toNat)
      case atStart => exact ⟨0, 0, Z, rfl, rfl, by omega, by omega, hZl, hdZ, by simp [Hid, val], HO, hF⟩
      case round =>
        clear HO hF hdZ
        obtain ⟨j, c, Z', rfl, rfl, hc, hij, hZ'l, hdZ', HVI, HO, hF⟩ := hrel
        by_cases hgo : j < Y.length ∨ 0 < c
        · have hidx : i + j < X.length + Y.length := mul_index (T := val 65536 Z') (by omega) hdX hdY hlt hgo (mul_total HVI.out HXT.out HVZ.out (val_take_le _ _ _))
          have hO := HO.out
          have hoc := hO.cell (i + j) (by omega)
          rw [List.length_nil, Nat.zero_add] at hoc
          have hof := hO.free (i + j)
          have hxq : wr.cell? ⟨xb, xo + i, none⟩ = some (.int .i64 (D : Int)) := (hF.cell (p := ⟨xb, xo + i, none⟩) hxb (fun e => e)).trans hxcell
          have hat := fun n => refAt_any _ _ Y j (wr.drewN n) (Dw.drewN (Dw.fresh HY.out hF) n) (by omega)
          have hyd := Dg.getD (by omega) hdY j
          have hzd := Dg.getD (by omega) hdZ' (i + j)
          have hin := mul_inner (B := 65536) (x := D) (y := Y.getD j 0) (k := i + j) (by omega) HVI.out rfl
          rw [show val 65536 Z + 65536 ^ i * (D * val 65536 (Y.take j)) + 65536 ^ (i + j) * (D * Y.getD j 0) = val 65536 Z + 65536 ^ i * (D * val 65536 (Y.take (j + 1))) by
            rw [val_take_succ, Nat.mul_add D, Nat.mul_add (65536 ^ i), Nat.pow_add, Nat.add_assoc]
            congr 2
            rw [Nat.mul_assoc, Nat.mul_left_comm D]] at hin
          have hroom := mul_room hzd hxd hyd hc
          have hset := hO.set (i + j) ((Z'.getD (i + j) 0 + D * Y.getD j 0 + c) % 65536) (by omega)
          rw [List.length_nil, Nat.zero_add] at hset
          obtain ⟨OZ, hOZ⟩ : ∃ x, x = Z'.getD (i + j) 0 := ⟨_, rfl⟩
          obtain ⟨E, hE⟩ : ∃ x, x = Y.getD j 0 := ⟨_, rfl⟩
          rw [← hOZ] at hoc hzd hin hroom hset
          rw [← hE] at hat hyd hin hroom hset
          obtain ⟨P, hP⟩ : ∃ x, x = D * E := ⟨_, rfl⟩
          rw [← hP] at hin hroom hset
          obtain ⟨T, hT⟩ : ∃ x, x = OZ + P + c := ⟨_, rfl⟩
          rw [← hT] at hin hroom hset
          obtain ⟨R, hR⟩ : ∃ x, x = T % 65536 := ⟨_, rfl⟩
          obtain ⟨Q, hQ⟩ : ∃ x, x = T / 65536 := ⟨_, rfl⟩
          rw [← hR, ← hQ] at hin
          rw [← hR] at hset
          have c1 : (D : Int) * (E : Int) = (P : Int) := by rw [hP]; simp
          have c2 : (OZ : Int) + (P : Int) + (c : Int) = (T : Int) := by omega
          have c3 : (T : Int) % 65536 = (R : Int) := by rw [hR]; simp
          have c4 : (T : Int).tmod 65536 = (R : Int) := by rw [hR, Int.tmod_eq_emod_of_nonneg (by omega)]; simp
          have c5 : (T : Int) / 65536 = (Q : Int) := by rw [hQ]; simp
          have c6 : (T : Int).tdiv 65536 = (Q : Int) := by rw [hQ, Int.tdiv_eq_ediv_of_nonneg (by omega)]; simp
          have hRl : R < 65536 := by omega
          have hQl : Q < 65536 := by omega
          have HIN : Hid (val 65536 (Z'.set (i + j) R) + 65536 ^ (i + (j + 1)) * Q = val 65536 Z + 65536 ^ i * (D * val 65536 (Y.take (j + 1)))) := hin
          have hdN : Dg 65536 (Z'.set (i + j) R) := hdZ'.set _ hRl
          have hj0 : (0 : Int) ≤ (i : Int) := by omega
          have hj1 : (i : Int) < (X.length : Int) := by omega
          have hj2 : (0 : Int) ≤ (i : Int) + (j : Int) := by omega
          have hj3 : (i : Int) + (j : Int) < ((X.length + Y.length : Nat) : Int) := by omega
          have hPl : P ≤ 65535 * 65535 := by rw [hP]; exact Nat.mul_le_mul (by omega) (by omega)
          have hslen : (Z'.set (i + j) R).length = X.length + Y.length := by rw [List.length_set]; exact hZ'l
          have hoc' : ∀ n, (wr.drewN n).cell? ⟨w.heap.size, i + j, none⟩ = some (.int .i64 (OZ : Int)) := fun n => by rw [World.cell?_drewN]; exact hoc
          have hof' : ∀ n, (wr.drewN n).frozen? ⟨w.heap.size, i + j, none⟩ = false := fun n => by rw [World.frozen?_drewN]; exact hof
          have hxq' : ∀ n, (wr.drewN n).cell? ⟨xb, xo + i, none⟩ = some (.int .i64 (D : Int)) := fun n => by rw [World.cell?_drewN]; exact hxq
          have HSET : Hid (∀ n, Ow 3 .i64 ((wr.drewN n).setCell ⟨w.heap.size, i + j, none⟩ (.int .i64 (R : Int))) w.heap.size [] (Z'.set (i + j) R) S) := fun n => hset
          have HF : Hid (∀ n, Fresh w ((wr.drewN n).setCell ⟨w.heap.size, i + j, none⟩ (.int .i64 (R : Int)))) := fun n => Kept.setCell (show Fresh w (wr.drewN n) from ⟨hF.os, hF.tape, hF.output, hF.size, hF.block⟩) (p := ⟨w.heap.size, i + j, none⟩) (fun e => by simp at e) _
          generalize Z'.set (i + j) R = Z2 at *
          clear hin hset hO HO hT hP hR hQ hOZ hE HVI hdZ' hF hoc hof hxq
          by_cases hjy : j < Y.length
          · have tb : decide ((j : Int) < (Y.length : Int)) = true := by rw [decide_eq_true_iff]; omega
            go_wp2_with fail
            go_quiet ((go_at_call 50; refine Calls.quiet_of_same (hat _)))
            go_wp2
            go_roundw
            case rel => exact ⟨j + 1, Q, Z2, by go_num, rfl, hQl, by omega, hslen, hdN, HIN, HSET.out _, HF.out _⟩
            case measure => simp [intOf]; omega
          · have hc0 : 0 < c := by omega
            have tb : decide ((j : Int) < (Y.length : Int)) = false := by rw [decide_eq_false_iff_not]; omega
            go_wp2_with fail
            go_quiet ((go_at_call 50; refine Calls.quiet_of_same (hat _)))
            go_wp2
            go_roundw
            case rel => exact ⟨j + 1, Q, Z2, by go_num, rfl, hQl, by omega, hslen, hdN, HIN, HSET.out _, HF.out _⟩
            case measure => simp [intOf]; omega
        · have hjY : Y.length ≤ j := by omega
          obtain rfl : c = 0 := by omega
          have hv := HVI.out
          rw [Nat.mul_zero, Nat.add_zero, val_take_all _ _ _ hjY, HVZ.out, show val 65536 (X.take i) * val 65536 Y + 65536 ^ i * (D * val 65536 Y) = (val 65536 (X.take i) + 65536 ^ i * D) * val 65536 Y by rw [Nat.add_mul, Nat.mul_assoc], ← HXT.out] at hv
          have HVN : Hid (val 65536 Z' = val 65536 (X.take (i + 1)) * val 65536 Y) := hv
          have HF := show Hid _ from hF
          have tb : decide ((j : Int) < (Y.length : Int)) = false := by rw [decide_eq_false_iff_not]; omega
          clear hv HVI HVZ hF
          go_wp2
          go_roundw
          case rel => exact ⟨i + 1, by omega, by go_num, Z', hZ'l, hdZ', HVN, HO, HF.out⟩
          case measure => simp [intOf]; omega
    · obtain rfl : i = X.length := by omega
      have hv := HVZ.out
      rw [List.take_of_length_le (Nat.le_refl _), HV.out] at hv
      have hD := Ow.dw (B := 65536) (cap := X.length + Y.length) HO.out hdZ (by omega) (by omega) (by omega)
      rw [hZl, List.length_nil] at hD
      have ht := refCut_any _ _ _ _ hD
      rw [hv] at ht
      have HF := show Hid _ from hF
      clear hD hv hF HO HVZ hdZ hxc
      go_wp2_with fail
      refine ht.mono ?_
      rintro e w3 ⟨v', rfl, hR, rfl⟩
      have HR := show Hid _ from hR
      clear hR ht
      go_wp2
      go_ret
      exact ⟨_, rfl, HR.out, HF.out⟩
end Go.Proofs.YtdmjfmipalifpaaGreatDoor
