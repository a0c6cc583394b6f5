/-
  bits; the loops that write words: scale, split, addTimes.
-/
import Derived.Test.YtdmjfmipalifpaaGreatDoorWo
import Derived.Test.YtdmjfmipalifpaaGreatDoorDv
import Derived.Shelf.Spec.BitsCarry
namespace Go.Proofs.YtdmjfmipalifpaaGreatDoor
open Go.RowKit Go.Shelf

def renAdd : Ren := ⟨fun | 25 => 72 | n => n, fun | 22 => 71 | n => n, fun | n => n⟩
theorem laysAdd : Lays7.n25 Tryz.prog renAdd := {
  mixed := by kernel_rfl
  f25 := Tryz.func72.trans (congrArg some (by kernel_rfl))
  t22 := Tryz.underlying71
  a22 := Tryz.isAgg71
  z22 := Tryz.sizeOf71
  v22 := Tryz.zeroValue71
  i22 := by kernel_rfl }
theorem add64_run (x y c : Nat) (hc : c ≤ 1) (w : World) : (callFunc 72 #[.int .u64 x, .int .u64 y, .int .u64 c]).run Tryz.prog w = .ok (.value (.tuple #[.int .u64 (((x + y + c) % 18446744073709551616 : Nat) : Int), .int .u64 (((x + y + c) / 18446744073709551616 : Nat) : Int)])) w := Any7.bits_Add64 laysAdd x y c hc w
theorem add64_zero (x y : Nat) (w : World) : (callFunc 72 #[.int .u64 x, .int .u64 y, .int .u64 0]).run Tryz.prog w = .ok (.value (.tuple #[.int .u64 (((x + y) % 18446744073709551616 : Nat) : Int), .int .u64 (((x + y) / 18446744073709551616 : Nat) : Int)])) w := add64_run x y 0 (by omega) w

set_option maxHeartbeats 400000 in
theorem bits_any (p : Nat → Prop) (v : Value) (L : List Nat) (w : World) (h : Wd p w v L) (hc : Can L) :
    Calls Tryz.prog 47 #[v] w fun e w' => e = .returned (.int .i64 ((bl (val 18446744073709551616 L) : Nat) : Int)) ∧ w' = w := by
  have hdg := h.dg
  have hlen := h.len
  obtain ⟨ao, cap, rfl, _, _, hcell, _⟩ := h
  rcases List.eq_nil_or_concat L with rfl | ⟨A, d, rfl⟩
  · go_enter Tryz.func47, Tryz.ntmps47
    go_wp2
    go_ret
    exact ⟨rfl, rfl⟩
  · rw [List.concat_eq_append] at *
    obtain ⟨b, off, rfl, _, _, hce⟩ := hcell (by simp)
    have hd0 : d ≠ 0 := by intro e; subst e; simp [Can] at hc
    have hdB : d < 18446744073709551616 := hdg d (by simp)
    have hcu := hce A.length (by simp)
    rw [show (A ++ [d]).getD A.length 0 = d by simp] at hcu
    have hb := bl_snoc 64 A d (fun x hx => hdg x (List.mem_append_left _ hx)) hd0
    rw [show (2 : Nat) ^ 64 = 18446744073709551616 from rfl] at hb
    rw [hb]
    have hl := bl_bitLen hdB
    have hl64 : bl d ≤ 64 := bl_le (by simpa using hdB)
    rw [show (A ++ [d]).length = A.length + 1 by simp] at hlen ⊢
    have hlz := fun w => Tryz.bits_LeadingZeros64 (d : Int) w (by omega) (by omega)
    rw [Int.toNat_natCast, hl] at hlz
    have e1 : (A.length : Int) + 1 - 1 = (A.length : Int) := by omega
    have hj0 : (0 : Int) ≤ (A.length : Int) := by omega
    have hj1 : (A.length : Int) < (A.length : Int) + 1 := by omega
    clear hce hcell hdg hc hb
    generalize bl d = K at *
    generalize A.length = n at *
    go_enter Tryz.func47, Tryz.ntmps47
    go_wp2_with fail
    refine (hlz _).mono ?_
    rintro e w1 ⟨rfl, rfl⟩
    go_wp2
    go_ret
    exact ⟨ret_int (by omega), rfl⟩

/-- What scale leaves of a row. -/
def SclO (w w' : World) (b : Nat) (A S : List Value) (Z : List Nat) (m c : Nat) : Prop :=
  ∃ Z' o, Z'.length = Z.length ∧ Dg 18446744073709551616 Z' ∧ val 18446744073709551616 Z' + 18446744073709551616 ^ Z.length * o = m * val 18446744073709551616 Z + c ∧ Ow 71 .u64 w' b A Z' S ∧ Kept (only b) w w'

set_option maxHeartbeats 1000000 in
theorem scale_any (b cap : Nat) (A S : List Value) (Z : List Nat) (m c : Nat) (w : World) (h : Ow 71 .u64 w b A Z S) (hd : Dg 18446744073709551616 Z) (hZl : Z.length ≤ 35184372088832) (hm : m < 18446744073709551616) (hc : c < 18446744073709551616) :
    Calls Tryz.prog 59 #[.slice (some ⟨b, A.length, none⟩) Z.length cap, .int .u64 m, .int .u64 c] w fun e w' => e = .returned (.tuple #[]) ∧ SclO w w' b A S Z m c := by
  go_enter Tryz.func59, Tryz.ntmps59
  go_wp2
  go_loopw [2, 12] (fun cv iv wr => ∃ (X : List Nat) (o : Nat), X.length ≤ Z.length ∧ iv = .int .i64 (X.length : Int) ∧ cv = .int .u64 (o : Int) ∧ o < 18446744073709551616 ∧ Dg 18446744073709551616 X ∧ Hid (val 18446744073709551616 X + 18446744073709551616 ^ X.length * o = m * val 18446744073709551616 (Z.take X.length) + c) ∧ Ow 71 .u64 wr b A (X ++ Z.drop X.length) S ∧ Kept (only b) w wr) (fun _ iv _ => Z.length - (intOf iv).toNat)
  case atStart => exact ⟨[], c, by simp, rfl, rfl, hc, Dg.nil _, by simp [Hid, val], by simpa using h, Kept.refl _ _⟩
  case round =>
    obtain ⟨X, o, hX, rfl, rfl, ho, hdX, HV, hO, hK⟩ := hrel
    by_cases hlt : X.length < Z.length
    · have hZ := getD_next X Z
      have hcu := hO.cell X.length (by simp; omega)
      rw [hZ] at hcu
      have hfu := hO.free (A.length + X.length)
      have hzd := Dg.getD (by omega) hd X.length
      have hstep := scl_step HV.out
      obtain ⟨s1, s2, s3⟩ := scale_step hzd hm ho
      have hset := hO.set X.length ((Z.getD X.length 0 * m + o) % 18446744073709551616) (by simp; omega)
      rw [set_next X Z _ hlt] at hset
      have hmul := fun w => Tryz.bits_Mul64 (Z.getD X.length 0) m hzd hm w
      have hlo : Z.getD X.length 0 * m % 18446744073709551616 < 18446744073709551616 := Nat.mod_lt _ (by omega)
      have hhi : Z.getD X.length 0 * m / 18446744073709551616 < 18446744073709551616 := div_room (by have := mul_room (z := 0) (c := 0) (by omega) hzd hm (by omega); omega)
      have hadd := fun w => add64_zero (Z.getD X.length 0 * m % 18446744073709551616) o w
      rw [s1] at hadd
      obtain ⟨H, hH⟩ : ∃ H, H = Z.getD X.length 0 * m / 18446744073709551616 := ⟨_, rfl⟩
      obtain ⟨C, hC⟩ : ∃ C, C = (Z.getD X.length 0 * m % 18446744073709551616 + o) / 18446744073709551616 := ⟨_, rfl⟩
      obtain ⟨N, hN⟩ : ∃ N, N = (Z.getD X.length 0 * m + o) % 18446744073709551616 := ⟨_, rfl⟩
      obtain ⟨O, hO'⟩ : ∃ O, O = (Z.getD X.length 0 * m + o) / 18446744073709551616 := ⟨_, rfl⟩
      have hNl : N < 18446744073709551616 := by rw [hN]; exact Nat.mod_lt _ (by omega)
      rw [← hH, ← hC, ← hO'] at s2
      rw [← hO'] at s3
      rw [← hH] at hmul hhi
      rw [← hC, ← hN] at hadd
      have HS : Hid (val 18446744073709551616 (X ++ [N]) + 18446744073709551616 ^ (X ++ [N]).length * O = m * val 18446744073709551616 (Z.take (X.length + 1)) + c) := by rw [hN, hO']; exact hstep
      have HSET : Hid (Ow 71 .u64 (wr.setCell ⟨b, A.length + X.length, none⟩ (.int .u64 (N : Int))) b A ((X ++ [N]) ++ Z.drop (X.length + 1)) S) := by rw [hN]; exact hset
      have e2 : IntKind.u64.wrap ((H : Int) + (C : Int)) = (O : Int) := by rw [IntKind.wrap_u64]; omega
      have e3 : (H : Int) + (C : Int) = (O : Int) := by omega
      have hK' : Kept (only b) w (wr.setCell ⟨b, A.length + X.length, none⟩ (.int .u64 (N : Int))) := hK.trans (kept_set _ _ _ _) (fun _ _ e => e)
      have hj0 : (0 : Int) ≤ (X.length : Int) := by omega
      have hj1 : (X.length : Int) < (Z.length : Int) := by omega
      have HDX := show Hid _ from (hdX.append (Dg.one hNl))
      clear hN hC hH hO' hset hstep s1 hO HV hZ hK hdX
      generalize hzz : Z.getD X.length 0 * m % 18446744073709551616 = LO at *
      clear hzz
      generalize Z.getD X.length 0 = D at *
      go_wp2_with fail
      refine (hmul _).mono ?_
      rintro e w1 ⟨rfl, rfl⟩
      go_wp2
      go_roundw
      case rel => exact ⟨X ++ [N], O, by simp; omega, by simp, rfl, s3, HDX.out, by rw [List.length_append, List.length_singleton] at HS ⊢; exact HS, by rw [List.length_append, List.length_singleton]; exact HSET.out, hK'⟩
      case measure => simp [intOf]; omega
    · obtain hXZ : X.length = Z.length := by omega
      have hV := HV.out
      rw [hXZ, List.take_of_length_le (Nat.le_refl _)] at hV
      rw [hXZ, List.drop_of_length_le (Nat.le_refl _), List.append_nil] at hO
      have HR : Hid (SclO w wr b A S Z m c) := ⟨X, o, hXZ, hdX, hV, hO, hK⟩
      clear hV hO hK HV hdX
      rw [hXZ]
      go_wp2
      go_end0
      exact ⟨rfl, HR.out⟩

/-- What split leaves of a row, and what is left. -/
def SplO (w w' : World) (b : Nat) (A S : List Value) (Z : List Nat) (d l : Nat) : Prop :=
  ∃ Q, Q.length = Z.length ∧ Dg 18446744073709551616 Q ∧ val 18446744073709551616 Z = d * val 18446744073709551616 Q + l ∧ l < d ∧ Ow 71 .u64 w' b A Q S ∧ Kept (only b) w w'

set_option maxHeartbeats 1000000 in
theorem split_any (b cap : Nat) (A S : List Value) (Z : List Nat) (d : Nat) (w : World) (h : Ow 71 .u64 w b A Z S) (hd : Dg 18446744073709551616 Z) (hZl : Z.length ≤ 35184372088832) (hd0 : 0 < d) (hdl : d < 18446744073709551616) :
    Calls Tryz.prog 65 #[.slice (some ⟨b, A.length, none⟩) Z.length cap, .int .u64 d] w fun e w' => ∃ l : Nat, e = .returned (.int .u64 (l : Int)) ∧ SplO w w' b A S Z d l := by
  go_enter Tryz.func65, Tryz.ntmps65
  go_wp2
  go_loopw [5, 6] (fun lv iv wr => ∃ (n l : Nat) (Q : List Nat), n ≤ Z.length ∧ Q.length = Z.length - n ∧ iv = .int .i64 ((n : Int) - 1) ∧ lv = .int .u64 (l : Int) ∧ l < d ∧ Dg 18446744073709551616 Q ∧ Hid (val 18446744073709551616 (Z.drop n) = d * val 18446744073709551616 Q + l) ∧ Ow 71 .u64 wr b A (Z.take n ++ Q) S ∧ Kept (only b) w wr) (fun _ iv _ => (intOf iv + 1).toNat)
  case atStart => exact ⟨Z.length, 0, [], by omega, by simp, rfl, rfl, hd0, Dg.nil _, by simp [Hid, val], by simpa using h, Kept.refl _ _⟩
  case round =>
    obtain ⟨n, l, Q, hn, hQl, rfl, rfl, hld, hdQ, HV, hO, hK⟩ := hrel
    rcases Nat.eq_zero_or_pos n with hz | hz
    · subst hz
      have hV := HV.out
      rw [List.drop_zero] at hV
      rw [List.take_zero, List.nil_append] at hO
      have HR : Hid (SplO w wr b A S Z d l) := ⟨Q, by omega, hdQ, hV, hld, hO, hK⟩
      clear hV hO hK HV hdQ
      go_wp2
      go_ret
      exact ⟨l, rfl, HR.out⟩
    · obtain ⟨i, rfl⟩ : ∃ i, n = i + 1 := ⟨n - 1, by omega⟩
      have e1 : ((i + 1 : Nat) : Int) - 1 = (i : Int) := by omega
      rw [e1]
      have hZ := getD_prev Z Q i (by omega)
      have hcu := hO.cell i (by simp; omega)
      rw [hZ] at hcu
      have hfu := hO.free (A.length + i)
      have hzd := Dg.getD (by omega) hd i
      have hstep := spl_step (z := Z.getD i 0) HV.out
      have hroom := spl_room (B := 18446744073709551616) hld hzd
      have hset := hO.set i ((l * 18446744073709551616 + Z.getD i 0) / d) (by simp; omega)
      rw [set_prev Z Q i _ (by omega)] at hset
      have hdiv := fun w => div64_any l (Z.getD i 0) d w hzd hdl hld
      have hml : (l * 18446744073709551616 + Z.getD i 0) % d < d := Nat.mod_lt _ hd0
      rw [show Z.getD i 0 :: Z.drop (i + 1) = Z.drop i by
        rw [List.drop_eq_getElem_cons (i := i) (by omega), List.getD_eq_getElem?_getD, List.getElem?_eq_getElem (by omega)]; rfl] at hstep
      obtain ⟨q, hq⟩ : ∃ q, q = (l * 18446744073709551616 + Z.getD i 0) / d := ⟨_, rfl⟩
      obtain ⟨r, hr⟩ : ∃ r, r = (l * 18446744073709551616 + Z.getD i 0) % d := ⟨_, rfl⟩
      rw [← hq, ← hr] at hdiv hstep
      rw [← hq] at hset hroom
      rw [← hr] at hml
      have HS := show Hid _ from hstep
      have HSET := show Hid _ from hset
      have HDQ : Hid (Dg 18446744073709551616 (q :: Q)) := fun x hx => by
        rcases List.mem_cons.1 hx with e | e
        · omega
        · exact hdQ x e
      have hj0 : (0 : Int) ≤ (i : Int) := by omega
      have hj1 : (i : Int) < (Z.length : Int) := by omega
      clear hq hr hset hstep hO HV hZ hdQ
      generalize Z.getD i 0 = D at *
      go_wp2_with fail
      refine (hdiv _).mono ?_
      rintro e w1 ⟨rfl, nd, rfl⟩
      have hcu1 : (wr.drewN nd).cell? ⟨b, A.length + i, none⟩ = some (.int .u64 (D : Int)) := by rw [World.cell?_drewN]; exact hcu
      have hfu1 : (wr.drewN nd).frozen? ⟨b, A.length + i, none⟩ = false := by rw [World.frozen?_drewN]; exact hfu
      have HO1 : Hid (Ow 71 .u64 ((wr.drewN nd).setCell ⟨b, A.length + i, none⟩ (.int .u64 (q : Int))) b A (Z.take i ++ q :: Q) S) := HSET.out
      have HK1 : Hid (Kept (only b) w ((wr.drewN nd).setCell ⟨b, A.length + i, none⟩ (.int .u64 (q : Int)))) := (show Kept (only b) w (wr.drewN nd) from ⟨hK.os, hK.tape, hK.output, hK.size, hK.block⟩).trans (kept_set _ _ _ _) (fun _ _ e => e)
      clear hcu hfu HSET hK
      generalize wr.drewN nd = wd at *
      go_wp2
      go_roundw
      case rel => exact ⟨i, r, q :: Q, by omega, by simp; omega, by go_num, rfl, hml, HDQ.out, HS, HO1.out, HK1.out⟩
      case measure => simp [intOf]

/-- What addTimes leaves of a row, and what does not fit there. -/
def AddO (w w' : World) (b : Nat) (A S : List Value) (Z X : List Nat) (m o : Nat) : Prop :=
  ∃ Z', Z'.length = Z.length ∧ Dg 18446744073709551616 Z' ∧ val 18446744073709551616 Z' + 18446744073709551616 ^ Z.length * o = val 18446744073709551616 Z + m * val 18446744073709551616 (X.take Z.length) ∧ o < 18446744073709551616 ∧ Ow 71 .u64 w' b A Z' S ∧ Kept (only b) w w'

set_option maxHeartbeats 1000000 in
theorem addTimes_any (p : Nat → Prop) (b cap : Nat) (A S : List Value) (Z X : List Nat) (xv : Value) (m : Nat) (w : World) (h : Ow 71 .u64 w b A Z S) (hd : Dg 18446744073709551616 Z) (hZl : Z.length ≤ 35184372088832) (hx : Wd p w xv X) (hpb : ¬ p b) (hm : m < 18446744073709551616) :
    Calls Tryz.prog 74 #[.slice (some ⟨b, A.length, none⟩) Z.length cap, xv, .int .u64 m] w fun e w' => ∃ o : Nat, e = .returned (.int .u64 (o : Int)) ∧ AddO w w' b A S Z X m o := by
  have hdx := hx.dg
  obtain ⟨xa, xc, rfl⟩ := hx.shape
  have HX := show Hid _ from hx
  clear hx
  go_enter Tryz.func74, Tryz.ntmps74
  go_wp2
  go_loopw [7, 14] (fun cv iv wr => ∃ (Y : List Nat) (o : Nat), Y.length ≤ Z.length ∧ iv = .int .i64 (Y.length : Int) ∧ cv = .int .u64 (o : Int) ∧ o < 18446744073709551616 ∧ Dg 18446744073709551616 Y ∧ Hid (val 18446744073709551616 Y + 18446744073709551616 ^ Y.length * o = val 18446744073709551616 (Z.take Y.length) + m * val 18446744073709551616 (X.take Y.length)) ∧ Ow 71 .u64 wr b A (Y ++ Z.drop Y.length) S ∧ Kept (only b) w wr) (fun _ iv _ => Z.length - (intOf iv).toNat)
  case atStart => exact ⟨[], 0, by simp, rfl, rfl, by omega, Dg.nil _, by simp [Hid, val], by simpa using h, Kept.refl _ _⟩
  case round =>
    obtain ⟨Y, o, hY, rfl, rfl, ho, hdY, HV, hO, hK⟩ := hrel
    by_cases hlt : Y.length < Z.length
    · have hat := at_any p _ X Y.length wr (Dw.kept HX.out hK (fun k hk _ e => hpb (by have e' : k = b := e; rw [← e']; exact hk))) (by omega)
      have hZ := getD_next Y Z
      have hcu := hO.cell Y.length (by simp; omega)
      rw [hZ] at hcu
      have hfu := hO.free (A.length + Y.length)
      have hzd := Dg.getD (by omega) hd Y.length
      have hxd := Dg.getD (by omega) hdx Y.length
      have hstep := addT_step HV.out
      obtain ⟨s1, s2, s3⟩ := word_step hzd hxd hm ho
      have hset := hO.set Y.length ((Z.getD Y.length 0 + X.getD Y.length 0 * m + o) % 18446744073709551616) (by simp; omega)
      rw [set_next Y Z _ hlt] at hset
      have hmul := fun w => Tryz.bits_Mul64 (X.getD Y.length 0) m hxd hm w
      obtain ⟨D, hD⟩ : ∃ D, D = Z.getD Y.length 0 := ⟨_, rfl⟩
      obtain ⟨E, hE⟩ : ∃ E, E = X.getD Y.length 0 := ⟨_, rfl⟩
      rw [← hD, ← hE] at s1 s2 s3 hstep hset
      rw [← hE] at hmul hat
      rw [← hD] at hcu
      obtain ⟨H, hH⟩ : ∃ H, H = E * m / 18446744073709551616 := ⟨_, rfl⟩
      obtain ⟨LO, hLO⟩ : ∃ LO, LO = E * m % 18446744073709551616 := ⟨_, rfl⟩
      obtain ⟨L1, hL1⟩ : ∃ L1, L1 = (LO + o) % 18446744073709551616 := ⟨_, rfl⟩
      obtain ⟨C1, hC1⟩ : ∃ C1, C1 = (LO + o) / 18446744073709551616 := ⟨_, rfl⟩
      obtain ⟨N, hN⟩ : ∃ N, N = (D + L1) % 18446744073709551616 := ⟨_, rfl⟩
      obtain ⟨C2, hC2⟩ : ∃ C2, C2 = (D + L1) / 18446744073709551616 := ⟨_, rfl⟩
      obtain ⟨O, hO'⟩ : ∃ O, O = (D + E * m + o) / 18446744073709551616 := ⟨_, rfl⟩
      have hadd1 := fun w => add64_zero LO o w
      have hadd2 := fun w => add64_zero D L1 w
      rw [← hL1, ← hC1] at hadd1
      rw [← hN, ← hC2] at hadd2
      rw [← hH, ← hLO] at hmul
      rw [← hH, ← hLO, ← hC1, ← hL1, ← hC2, ← hO'] at s2
      rw [← hLO, ← hL1, ← hN] at s1
      rw [← hO'] at s3
      rw [← s1, ← hO'] at hstep
      rw [← s1] at hset
      have hNl : N < 18446744073709551616 := by rw [hN]; exact Nat.mod_lt _ (by omega)
      have HS := show Hid _ from hstep
      have HSET := show Hid _ from hset
      have e2 : IntKind.u64.wrap ((H : Int) + (C1 : Int)) = (H : Int) + (C1 : Int) := by rw [IntKind.wrap_u64]; omega
      have e3 : IntKind.u64.wrap ((H : Int) + (C1 : Int) + (C2 : Int)) = (O : Int) := by rw [IntKind.wrap_u64]; omega
      have e4 : (H : Int) + (C1 : Int) + (C2 : Int) = (O : Int) := by omega
      have HK' : Hid (Kept (only b) w (wr.setCell ⟨b, A.length + Y.length, none⟩ (.int .u64 (N : Int)))) := hK.trans (kept_set _ _ _ _) (fun _ _ e => e)
      have hj0 : (0 : Int) ≤ (Y.length : Int) := by omega
      have hj1 : (Y.length : Int) < (Z.length : Int) := by omega
      have HDX := show Hid _ from (hdY.append (Dg.one hNl))
      clear hN hC1 hC2 hH hO' hL1 hLO hD hE hset hstep s1 hO HV hZ hK hdY
      go_wp2_with fail
      refine hat.mono ?_
      rintro e w1 ⟨rfl, rfl⟩
      go_wp2_with fail
      refine (hmul _).mono ?_
      rintro e w1 ⟨rfl, rfl⟩
      go_wp2
      go_roundw
      case rel => exact ⟨Y ++ [N], O, by simp; omega, by simp, rfl, s3, HDX.out, by rw [List.length_append, List.length_singleton] at HS ⊢; exact HS, by rw [List.length_append, List.length_singleton]; exact HSET.out, HK'.out⟩
      case measure => simp [intOf]; omega
    · obtain hYZ : Y.length = Z.length := by omega
      have hV := HV.out
      rw [hYZ, List.take_of_length_le (Nat.le_refl Z.length)] at hV
      rw [hYZ, List.drop_of_length_le (Nat.le_refl _), List.append_nil] at hO
      have HR : Hid (AddO w wr b A S Z X m o) := ⟨Y, hYZ, hdY, hV, ho, hO, hK⟩
      clear hV hO hK HV hdY
      rw [hYZ]
      go_wp2
      go_ret
      exact ⟨o, rfl, HR.out⟩
end Go.Proofs.YtdmjfmipalifpaaGreatDoor
