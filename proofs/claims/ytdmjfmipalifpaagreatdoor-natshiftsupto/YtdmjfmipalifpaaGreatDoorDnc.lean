/-
  Numbers over 2^n: down.
-/
import Derived.Test.YtdmjfmipalifpaaGreatDoorDnb
namespace Go.Proofs.YtdmjfmipalifpaaGreatDoor
open Go.RowKit

set_option maxHeartbeats 2000000 in
set_option maxRecDepth 100000 in
theorem down_any (xv : Value) (M n : Nat) (w : World) (hx : Nm w xv M) (hb : bl M ≤ 65536) (hn : n ≤ 9223372036854775807) :
    Calls Tryz.prog 53 #[xv, .int .i64 n] w fun e w' => ∃ v', e = .returned v' ∧ (Nm w' v' (M / 2 ^ n) ∧ Fresh w w') := by
  obtain ⟨i0, hi, hz0, hz1, hz2⟩ := info_parts Tryz.infoU
  obtain ⟨X, hX, hcX, hvX, _⟩ := hx
  have hlX := nm_len hX.dg hcX
  rw [hvX] at hlX
  have hXl : X.length ≤ 1025 := by omega
  have hdX := hX.dg
  obtain ⟨xa, xc, hxv⟩ := hX.shape
  have HX : Hid (∀ i, i < X.length → ∃ b off, xa = some ⟨b, off, none⟩ ∧ b < w.heap.size ∧ w.cell? ⟨b, off + i, none⟩ = some (.int .u64 ((X.getD i 0 : Nat) : Int))) := fun i hi => hX.at hxv i hi
  have HAT : Hid (∀ (W : World) (i : Nat), Fresh w W → i ≤ 9223372036854775807 → Calls Tryz.prog 45 #[.slice xa X.length xc, .int .i64 i] W fun e w' => e = .returned (.int .u64 ((X.getD i 0 : Nat) : Int)) ∧ w' = W) := fun W i hF hi => at_any _ _ X i W (by rw [← hxv]; exact Dw.fresh hX hF) hi
  subst hxv
  obtain ⟨Q, hQ⟩ : ∃ Q, Q = n / 64 := ⟨_, rfl⟩
  obtain ⟨R, hR⟩ : ∃ R, R = n % 64 := ⟨_, rfl⟩
  have q1 : (n : Int) / 64 = (Q : Int) := by omega
  have q2 : (n : Int).tdiv 64 = (Q : Int) := by rw [Int.tdiv_eq_ediv_of_nonneg (by omega)]; exact q1
  have q3 : (n : Int) % 64 = (R : Int) := by omega
  have q4 : (n : Int).tmod 64 = (R : Int) := by rw [Int.tmod_eq_emod_of_nonneg (by omega)]; exact q3
  have hRl : R < 64 := by omega
  have hQl : Q ≤ 144115188075855872 := by omega
  obtain ⟨m, hm⟩ : ∃ m, m = X.length - Q := ⟨_, rfl⟩
  have hmx : max ((X.length : Int) - (Q : Int)) 0 = (m : Int) := by omega
  have hml : m ≤ 1025 := by omega
  have HV : Hid (val 18446744073709551616 ((List.range m).map (dw (X.drop Q) R)) = M / 2 ^ n) := by
    have h1 := dw_val R hRl (X.drop Q) (hdX.drop Q)
    rw [List.length_drop, ← hm] at h1
    show _ = _
    rw [h1]
    have hdv := down_val 64 M n
    rw [← hQ, ← hR, show (2 ^ 64 : Nat) = 18446744073709551616 by decide] at hdv
    rw [← hdv]
    congr 1
    rcases Nat.lt_or_ge X.length Q with e | e
    · rw [List.drop_of_length_le (by omega)]
      have hmm := val_lt (B := 18446744073709551616) (by decide) hdX
      rw [hvX] at hmm
      rw [Nat.div_eq_of_lt (Nat.lt_of_lt_of_le hmm (Nat.pow_le_pow_right (by decide) (by omega)))]
      rfl
    · rw [val_drop (by decide) hdX Q e, hvX]
  have HM : Hid (∀ i, i < m → Q + i < X.length) := fun i hi => by omega
  have HDW : Hid (∀ i, dw (X.drop Q) R i = X.getD (Q + i) 0 / 2 ^ R ||| X.getD (Q + i + 1) 0 * 2 ^ (64 - R) % 18446744073709551616) := fun i => by
    rw [down_word hRl (Dg.getD (by decide) hdX _)]
    unfold dw
    simp only [List.getD_eq_getElem?_getD, List.getElem?_drop, Nat.add_assoc]
  have HXD : Hid (∀ i, X.getD i 0 < 18446744073709551616) := fun i => Dg.getD (by decide) hdX i
  obtain ⟨G, hG⟩ : ∃ G, G = 64 - R := ⟨_, rfl⟩
  have q5 : (64 : Int) - (R : Int) = (G : Int) := by omega
  have hGl : 1 ≤ G ∧ G ≤ 64 := by omega
  rw [← hG] at HDW
  obtain ⟨f, hf⟩ : ∃ f, f = dw (X.drop Q) R := ⟨_, rfl⟩
  have HFL : Hid (∀ i, f i < 18446744073709551616) := fun i => by rw [hf]; exact dw_lt _ _ _
  rw [← hf] at HDW HV
  clear hX hlX hcX hvX hb hQ hR hdX hm hG hf
  go_enter Tryz.func53, Tryz.ntmps53
  go_wp2_with (at_make; refine wpList_make_full _ rfl _ _ _ rfl w.heap.size 71 i0 _ 1 Tryz.underlying24 hi hz0 hz1 _ _ _ _ m rfl rfl rfl rfl (by rw [hz2]; omega) (by unfold maxLen; omega) (by omega) ?_; intro w2 hown2 hgrow2)
  have hk2 : Fresh w w2 := (Kept.refl _ w).grown hgrow2 (fun k _ e => by cases e)
  rw [show (Value.int .u64 0).cells = #[.int .u64 0] from rfl, Nat.mul_one, madeZeros] at hown2
  obtain ⟨S, hO2, _, _, _, _⟩ := ow_of_own hown2
  have HO2 := show Hid _ from hO2
  clear hgrow2 hown2 hO2
  go_loopw [21] (fun iv wr => ∃ i : Nat, i ≤ m ∧ iv = .int .i64 (i : Int) ∧ Hid (Ow 71 .u64 wr w.heap.size [] ((List.range i).map f ++ (List.replicate m 0).drop i) S) ∧ Fresh w wr) (fun iv _ => m - (intOf iv).toNat)
  case atStart => exact ⟨0, Nat.zero_le _, rfl, HO2, hk2⟩
  case round =>
    obtain ⟨i, hil, rfl, HO, hF⟩ := hrel
    have hO := HO.out
    have hrl : ((List.range i).map f).length = i := by simp
    by_cases hlt : i < m
    · have hQi := HM.out i hlt
      obtain ⟨xb, xo, rfl, hxb, hxe⟩ := HX.out (Q + i) hQi
      have hx1 := (hF.cell (p := ⟨xb, xo + (Q + i), none⟩) hxb (fun e => e)).trans hxe
      have hA2 := HAT.out wr.drew (Q + i + 1) hF.drew (by omega)
      rw [show ((Q + i + 1 : Nat) : Int) = ((Q + i : Nat) : Int) + 1 from rfl] at hA2
      have hcu := hO.cell i (by simp; omega)
      have hfu := hO.free i
      have hset := hO.set i (f i) (by simp; omega)
      have hsn := set_next ((List.range i).map f) (List.replicate m 0) (f i) (by simp; omega)
      rw [hrl] at hsn
      rw [hsn, show (List.range i).map f ++ [f i] = (List.range (i + 1)).map f by rw [List.range_succ, List.map_append]; rfl, List.length_nil, Nat.zero_add] at hset
      have hdw := HDW.out i
      have hxd := HXD.out (Q + i)
      have hyd := HXD.out (Q + i + 1)
      have hfl := HFL.out i
      rw [List.length_nil, Nat.zero_add] at hcu
      generalize (((List.range i).map f ++ (List.replicate m 0).drop i).getD i 0 : Nat) = OLD at *
      generalize X.getD (Q + i) 0 = D at *
      generalize X.getD (Q + i + 1) 0 = E at *
      generalize f i = T at *
      have q6 : (Q : Int) + (i : Int) = ((Q + i : Nat) : Int) := by omega
      generalize Q + i = P at *
      have HA2 : Hid (Unit → _) := fun (_ : Unit) => hA2
      clear hA2
      have HSET : Hid (Ow 71 .u64 (wr.setCell ⟨w.heap.size, i, none⟩ (.int .u64 (T : Int))).drew w.heap.size [] ((List.range (i + 1)).map f ++ (List.replicate m 0).drop (i + 1)) S) := hset
      have HK : Hid (Fresh w (wr.setCell ⟨w.heap.size, i, none⟩ (.int .u64 (T : Int))).drew) := (hF.setCell (p := ⟨w.heap.size, i, none⟩) (fun e => by simp at e) _).drew
      have hj0 : (0 : Int) ≤ (i : Int) := by omega
      have hj1 : (i : Int) < (m : Int) := by omega
      have hj2 : (P : Int) < (X.length : Int) := by omega
      have hj3 : (0 : Int) ≤ (P : Int) := by omega
      have q7 : IntKind.i64.wrap (P : Int) = (P : Int) := by rw [IntKind.wrap_i64]; omega
      have q8 : IntKind.i64.wrap ((P : Int) + 1) = (P : Int) + 1 := by rw [IntKind.wrap_i64]; omega
      obtain ⟨FF, hFF⟩ : ∃ F : Nat, F = E * 2 ^ G % 18446744073709551616 := ⟨_, rfl⟩
      obtain ⟨DD, hDD⟩ : ∃ F : Nat, F = D / 2 ^ R := ⟨_, rfl⟩
      have hFl : FF < 18446744073709551616 := by rw [hFF]; exact Nat.mod_lt _ (by decide)
      have hDl : DD < 18446744073709551616 := by rw [hDD]; exact Nat.lt_of_le_of_lt (Nat.div_le_self _ _) hxd
      have s1 : IntKind.u64.wrap ((E : Int) * 2 ^ G) = (FF : Int) := by
        rw [IntKind.wrap_u64, hFF]
        have : (E : Int) * 2 ^ G = ((E * 2 ^ G : Nat) : Int) := by simp
        rw [this]
        omega
      have s2 : (D : Int) / 2 ^ R = (DD : Int) := by rw [hDD]; simp
      have s3 : (D : Int).fdiv (2 ^ R) = (DD : Int) := by rw [Int.fdiv_eq_ediv_of_nonneg _ (Int.le_of_lt (Int.pow_pos (by omega)))]; exact s2
      have s4 : bits .or .u64 (DD : Int) (FF : Int) = (T : Int) := by rw [bits_or_u64_nat _ _ hDl hFl, hdw, hDD, hFF]
      have s5 : min G 64 = G := by omega
      have s6 : min R 64 = R := by omega
      have s7 : IntKind.i64.wrap (G : Int) = (G : Int) := by rw [IntKind.wrap_i64]; omega
      have s8 : ¬ ((G : Int) < 0) := by omega
      have s9 : ¬ ((R : Int) < 0) := by omega
      clear hFF hDD hdw
      clear hset hsn hO HO hF HX HAT HV HM HDW HXD HFL hxe hrl HO2 hk2
      go_wp2_with fail
      go_region_with (first | (go_at_call 45; refine (HA2.out ()).mono ?_; rintro e X5 ⟨rfl, rfl⟩))
      all_goals go_wp2
      all_goals go_roundw
      all_goals first
        | exact ⟨i + 1, by omega, by go_num, HSET, HK.out⟩
        | (simp [intOf]; omega)
    · obtain hZm : i = m := by omega
      rw [hZm, List.drop_of_length_le (by simp), List.append_nil] at hO
      have hdZ : Dg 18446744073709551616 ((List.range m).map f) := fun d hd => by
        obtain ⟨t, _, rfl⟩ := List.mem_map.1 hd
        exact HFL.out t
      have hZl : ((List.range m).map f).length = m := by simp
      have hD := Ow.dw (B := 18446744073709551616) (cap := m) hO hdZ (by omega) (by omega) (by omega)
      rw [hZl, List.length_nil] at hD
      have ht := trim_any _ _ _ _ hD
      have HTR : Hid (Unit → _) := fun (_ : Unit) => ht
      have HU := show Hid _ from Ow.isU hO
      have HF := show Hid _ from hF
      rw [hZm]
      clear hD hO HO hF hdZ ht HX HAT HM hZm HDW HXD HFL HO2 hk2 hrl hZl
      go_wp2_with fail
      refine (HTR.out ()).mono ?_
      rintro e w4 ⟨v', rfl, hT, rfl⟩
      have hN := nm_of_trim hT HU.out
      rw [HV.out] at hN
      have HN2 := show Hid _ from hN
      clear hT hN HTR
      go_wp2
      go_ret
      exact ⟨_, rfl, HN2.out, HF.out⟩
end Go.Proofs.YtdmjfmipalifpaaGreatDoor
