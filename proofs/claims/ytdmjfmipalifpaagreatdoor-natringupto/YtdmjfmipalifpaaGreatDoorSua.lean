/-
  Differences of the program's numbers: minus, Sub.
-/
import Derived.Test.YtdmjfmipalifpaaGreatDoorCt
import Derived.Test.YtdmjfmipalifpaaGreatDoorLkd
namespace Go.Proofs.YtdmjfmipalifpaaGreatDoor
open Go.RowKit Go.Shelf

def renSub : Ren := ⟨fun | 26 => 73 | n => n, fun | 22 => 71 | n => n, fun | n => n⟩
theorem laysSub : Lays7.n26 Tryz.prog renSub := {
  mixed := by kernel_rfl
  f26 := Tryz.func73.trans (congrArg some (by kernel_rfl))
  t22 := Tryz.underlying71
  a22 := Tryz.isAgg71
  z22 := Tryz.sizeOf71
  v22 := Tryz.zeroValue71
  i22 := by kernel_rfl }
theorem sub64_run (x y c : Nat) (hc : c ≤ 1) (hx : x < 18446744073709551616) (hy : y < 18446744073709551616) : ∃ D Q : Nat, (∀ w, (callFunc 73 #[.int .u64 x, .int .u64 y, .int .u64 c]).run Tryz.prog w = .ok (.value (.tuple #[.int .u64 (D : Int), .int .u64 (Q : Int)])) w) ∧ D < 18446744073709551616 ∧ Q ≤ 1 ∧ D + y + c = x + 18446744073709551616 * Q := by
  by_cases h : x < y + c
  · refine ⟨(x + 18446744073709551616 - y - c) % 18446744073709551616, 1, fun w => ?_, by omega, by omega, by omega⟩
    have := Any7.bits_Sub64 laysSub x y c hc w
    rw [if_pos h] at this
    exact this
  · refine ⟨(x + 18446744073709551616 - y - c) % 18446744073709551616, 0, fun w => ?_, by omega, by omega, by omega⟩
    have := Any7.bits_Sub64 laysSub x y c hc w
    rw [if_neg h] at this
    exact this
theorem sub_step {B : Nat} {A X Y : List Nat} {c d q : Nat} (h : val B A + val B (Y.take A.length) = val B (X.take A.length) + B ^ A.length * c) (hd : d + Y.getD A.length 0 + c = X.getD A.length 0 + B * q) :
    val B (A ++ [d]) + val B (Y.take (A.length + 1)) = val B (X.take (A.length + 1)) + B ^ (A.length + 1) * q := by
  rw [val_snoc, val_take_succ, val_take_succ, Nat.pow_succ, Nat.mul_assoc]
  have e := congrArg (B ^ A.length * ·) hd
  simp only [Nat.mul_add] at e
  omega
theorem sub_end {B a z n m c : Nat} (h : z + n = m + B ^ a * c) (hz : z < B ^ a) (hn : n ≤ m) : z = m - n := by
  rcases Nat.eq_zero_or_pos c with hc | hc
  · subst hc; omega
  · have : B ^ a * 1 ≤ B ^ a * c := Nat.mul_le_mul_left _ hc
    omega

set_option maxHeartbeats 2000000 in
set_option maxRecDepth 100000 in
theorem minus_any (xv yv : Value) (M N : Nat) (w : World) (hx : Nm w xv M) (hy : Nm w yv N) (hb : bl M ≤ 1099511627776) (hle : N ≤ M) :
    Calls Tryz.prog 51 #[xv, yv] w fun e w' => ∃ v', e = .returned v' ∧ (Nm w' v' (M - N) ∧ Fresh w w') := by
  obtain ⟨i0, hi, hz0, hz1, hz2⟩ := info_parts Tryz.infoU
  obtain ⟨X, hX, hcX, hvX, _⟩ := hx
  obtain ⟨Y, hY, hcY, hvY, _⟩ := hy
  have hlX := nm_len hX.dg hcX
  rw [hvX] at hlX
  have hXl : X.length ≤ 17179869185 := by omega
  have hdX := hX.dg
  have hdY := hY.dg
  have hYX : Y.length ≤ X.length := by
    rcases Nat.lt_or_ge X.length Y.length with e | e
    · have := cmp_len (B := 18446744073709551616) (by decide) hdX hcY e
      omega
    · exact e
  obtain ⟨xa, xc, hxv⟩ := hX.shape
  obtain ⟨ya, yc, rfl⟩ := hY.shape
  have HX : Hid (∀ i, i < X.length → ∃ b off, xa = some ⟨b, off, none⟩ ∧ b < w.heap.size ∧ w.cell? ⟨b, off + i, none⟩ = some (.int .u64 ((X.getD i 0 : Nat) : Int))) := fun i hi => hX.at hxv i hi
  subst hxv
  have HY := show Hid _ from hY
  have HV : Hid (val 18446744073709551616 X = M ∧ val 18446744073709551616 (Y.take X.length) = N) := ⟨hvX, by rw [List.take_of_length_le hYX]; exact hvY⟩
  have HLE := show Hid _ from hle
  generalize hm : X.length = m at *
  have HM := show Hid _ from hm
  clear hX hY hlX hcX hcY hvX hvY hb hle hm
  go_enter Tryz.func51, Tryz.ntmps51
  go_wp2_with (at_make; refine wpList_make_full _ rfl _ _ _ rfl w.heap.size 71 i0 _ 1 Tryz.underlying24 hi hz0 hz1 _ _ _ _ m rfl rfl rfl rfl (by rw [hz2]; omega) (by unfold maxLen; omega) (by omega) ?_; intro w2 hown2 hgrow2)
  have hk2 : Fresh w w2 := (Kept.refl _ w).grown hgrow2 (fun k _ e => by cases e)
  rw [show (Value.int .u64 0).cells = #[.int .u64 0] from rfl, Nat.mul_one, madeZeros] at hown2
  obtain ⟨S, hO2, _, _, _, _⟩ := ow_of_own hown2
  have HO2 := show Hid _ from hO2
  clear hgrow2 hown2 hO2
  go_loopw [6, 13] (fun cv iv wr => ∃ (Z : List Nat) (c : Nat), Z.length ≤ m ∧ iv = .int .i64 (Z.length : Int) ∧ cv = .int .u64 (c : Int) ∧ c ≤ 1 ∧ Dg 18446744073709551616 Z ∧ Hid (val 18446744073709551616 Z + val 18446744073709551616 (Y.take Z.length) = val 18446744073709551616 (X.take Z.length) + 18446744073709551616 ^ Z.length * c) ∧ Hid (Ow 71 .u64 wr w.heap.size [] (Z ++ (List.replicate m 0).drop Z.length) S) ∧ Fresh w wr) (fun _ iv _ => m - (intOf iv).toNat)
  case atStart => exact ⟨[], 0, by simp, rfl, rfl, by omega, Dg.nil _, by simp [Hid, val], HO2, hk2⟩
  case round =>
    obtain ⟨Z, c, hZ, rfl, rfl, hc, hdZ, HVZ, HO, hF⟩ := hrel
    have hO := HO.out
    by_cases hlt : Z.length < m
    · have hat2 := at_any _ _ Y Z.length wr.drew (Dw.fresh HY.out hF.drew) (by omega)
      obtain ⟨xb, xo, rfl, hxb, hxe⟩ := HX.out Z.length hlt
      have hx1 := (hF.cell (p := ⟨xb, xo + Z.length, none⟩) hxb (fun e => e)).trans hxe
      have hxd := Dg.getD (by omega) hdX Z.length
      have hyd := Dg.getD (by omega) hdY Z.length
      obtain ⟨R, Q, hsub, hRl, hQ1, hRQ⟩ := sub64_run (X.getD Z.length 0) (Y.getD Z.length 0) c hc hxd hyd
      have hstep := sub_step HVZ.out hRQ
      have hcu := hO.cell Z.length (by simp; omega)
      rw [getD_next, List.length_nil, Nat.zero_add] at hcu
      have hfu := hO.free Z.length
      have hset := hO.set Z.length R (by simp; omega)
      rw [set_next _ _ _ (by simp; omega), List.length_nil, Nat.zero_add] at hset
      have HS := show Hid _ from hstep
      have HSET : Hid (Ow 71 .u64 (wr.setCell ⟨w.heap.size, Z.length, none⟩ (.int .u64 (R : Int))).drew w.heap.size [] (Z ++ [R] ++ (List.replicate m 0).drop (Z.length + 1)) S) := hset
      have HK : Hid (Fresh w (wr.setCell ⟨w.heap.size, Z.length, none⟩ (.int .u64 (R : Int))).drew) := (hF.setCell (p := ⟨w.heap.size, Z.length, none⟩) (fun e => by simp at e) _).drew
      have HDZ := show Hid _ from hdZ.append (Dg.one hRl)
      have hj0 : (0 : Int) ≤ (Z.length : Int) := by omega
      have hj1 : (Z.length : Int) < (m : Int) := by omega
      have HAT : Hid (Unit → _) := fun (_ : Unit) => hat2
      generalize ((List.replicate m 0).getD Z.length 0 : Nat) = OLD at *
      generalize X.getD Z.length 0 = D at *
      generalize Y.getD Z.length 0 = E at *
      clear hset hstep hO HO HVZ hdZ hF hat2 HX HY HV HLE HM hRQ hxe
      go_wp2_with fail
      go_region_with (first | (go_at_call 45; refine (HAT.out ()).mono ?_; rintro e X5 ⟨rfl, rfl⟩))
      all_goals go_wp2
      all_goals go_roundw
      all_goals first
        | exact ⟨Z ++ [R], Q, by simp; omega, by simp, rfl, hQ1, HDZ.out, by rw [List.length_append, List.length_singleton]; exact HS, by rw [List.length_append, List.length_singleton]; exact HSET, HK.out⟩
        | (simp [intOf]; omega)
    · obtain hZm : Z.length = m := by omega
      have hv := HVZ.out
      have hzl := val_lt (B := 18446744073709551616) (by decide) hdZ
      rw [hZm, HV.out.2, List.take_of_length_le (by rw [HM.out]; exact Nat.le_refl _), HV.out.1] at hv
      rw [hZm] at hzl
      have hvN := sub_end hv hzl HLE.out
      rw [hZm, List.drop_of_length_le (by simp), List.append_nil] at hO
      have hD := Ow.dw (B := 18446744073709551616) (cap := m) hO hdZ (by omega) (by omega) (by omega)
      rw [hZm, List.length_nil] at hD
      have ht := trim_any _ _ _ _ hD
      have HTR : Hid (Unit → _) := fun (_ : Unit) => ht
      have HU := show Hid _ from Ow.isU hO
      have HF := show Hid _ from hF
      have HN := show Hid _ from hvN
      rw [hZm]
      clear hD hO HO HVZ hv hF hvN hdZ ht HX HY HV HLE HM hzl hZm
      go_wp2_with fail
      refine (HTR.out ()).mono ?_
      rintro e w4 ⟨v', rfl, hT, rfl⟩
      have hN := nm_of_trim hT HU.out
      rw [HN.out] at hN
      have HN2 := show Hid _ from hN
      clear hT hN HTR
      go_wp2
      go_ret
      exact ⟨_, rfl, HN2.out, HF.out⟩
end Go.Proofs.YtdmjfmipalifpaaGreatDoor
