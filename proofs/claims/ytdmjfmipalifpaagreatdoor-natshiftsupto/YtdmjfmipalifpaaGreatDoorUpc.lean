/-
  The document's Up.
-/
import Derived.Test.YtdmjfmipalifpaaGreatDoorUpb
import Derived.Test.YtdmjfmipalifpaaGreatDoorRfd
import Derived.Test.YtdmjfmipalifpaaGreatDoorGva
import Derived.Test.YtdmjfmipalifpaaGreatDoorWv
namespace Go.Proofs.YtdmjfmipalifpaaGreatDoor
open Go.RowKit

theorem ownF {w w' : World} {B : Nat} {e : TypeId} {size : Nat} {v : Value} {n : Nat} {xs : List Value} (h : w.ownsRow B e size v n xs) (hk : Fresh w w') : w'.ownsRow B e size v n xs := by
  refine ⟨h.1, h.2.imp id fun ⟨g, cap, cur, h1, h2, h3, h4⟩ => ⟨g, cap, cur, h1, h2, ?_, h4⟩⟩
  rw [hk.block g (lt_of_heap h3) (fun e => e)]
  exact h3

set_option maxHeartbeats 2000000 in
set_option maxRecDepth 100000 in
theorem refUp_any (v : Value) (M n : Nat) (w : World) (h : Rn w v M) (hb : bl M ≤ 65536) (hn : n ≤ 9223372036854775807) :
    Calls Tryz.prog 29 #[v, .int .i64 n] w fun e w' => ∃ v', e = .returned (.tuple #[v', .bool (decide (fitE (M * 2 ^ n) = 0))]) ∧ ((fitE (M * 2 ^ n) = 0 → Rn w' v' (M * 2 ^ n)) ∧ (∃ a m c, v' = .slice a m c) ∧ Fresh w w') := by
  obtain ⟨i0, hi, hz0, hz1, hz2⟩ := info_parts Tryz.infoI
  have HRN : Hid (Unit → _) := fun (_ : Unit) => h
  obtain ⟨X, hX, hc, hv⟩ := h
  have hdg := hX.dg
  have hlX := rn_len hdg hc
  rw [hv] at hlX
  have hXl : X.length ≤ 4097 := by omega
  obtain ⟨xa, xc, rfl⟩ := hX.shape
  by_cases hM : M = 0
  · have hX0 : X = [] := (val_eq_zero (by decide) hc).1 (hv.trans hM)
    have hl0 : X.length = 0 := by rw [hX0]; rfl
    rw [hl0] at HRN ⊢
    subst hM
    have hz : fitE (0 * 2 ^ n) = 0 := by rw [Nat.zero_mul]; exact (fit_in (by decide)).2
    have hd : decide (fitE (0 * 2 ^ n) = 0) = true := decide_eq_true hz
    rw [hd]
    have HZ : Hid (0 * 2 ^ n = 0) := Nat.zero_mul _
    clear hX hdg hlX hv hc hX0 hl0 hXl hz hd
    go_enter Tryz.func29, Tryz.ntmps29
    go_wp2
    go_ret2
    exact ⟨_, rfl, fun _ => by rw [HZ.out]; exact HRN.out (), ⟨_, _, _, rfl⟩, Kept.refl _ _⟩
  · have hX0 : X.length ≠ 0 := fun e => hM (by rw [← hv, List.eq_nil_of_length_eq_zero e]; rfl)
    have hX1 : ((X.length : Int) == 0) = false := by rw [beq_eq_false_iff_ne]; omega
    have hbu := bl_up n hM
    by_cases hbig : 65536 < n
    · have hz : ¬ fitE (M * 2 ^ n) = 0 := by
        rw [(fit_out (by rw [hbu]; omega)).2]
        decide
      rw [decide_eq_false hz]
      have HZ := show Hid _ from hz
      have hb' : (65536 : Int) < (n : Int) := by omega
      clear hX hdg hlX hv hc hz hbu HRN
      go_enter Tryz.func29, Tryz.ntmps29
      go_wp2
      go_ret2
      exact ⟨_, rfl, fun e => absurd e HZ.out, ⟨_, _, _, rfl⟩, Kept.refl _ _⟩
    · obtain ⟨Q, hQ⟩ : ∃ Q, Q = n / 16 := ⟨_, rfl⟩
      obtain ⟨R, hR⟩ : ∃ R, R = n % 16 := ⟨_, rfl⟩
      have q1 : (n : Int) / 16 = (Q : Int) := by omega
      have q2 : (n : Int).tdiv 16 = (Q : Int) := by rw [Int.tdiv_eq_ediv_of_nonneg (by omega)]; exact q1
      have q3 : (n : Int) % 16 = (R : Int) := by omega
      have q4 : (n : Int).tmod 16 = (R : Int) := by rw [Int.tmod_eq_emod_of_nonneg (by omega)]; exact q3
      have hRl : R < 16 := by omega
      have hQl : Q ≤ 4096 := by omega
      obtain ⟨E, hE⟩ : ∃ E : Nat, E = 2 ^ R := ⟨_, rfl⟩
      have hEl : E ≤ 65536 := by
        rw [hE]
        exact Nat.pow_le_pow_right (n := 2) (by decide) (show R ≤ 16 by omega)
      have hE0 : 0 < E := by rw [hE]; exact Nat.two_pow_pos _
      have hEI : (2 : Int) ^ R = (E : Int) := by rw [hE]; simp
      have hbE : bl E ≤ 17 := bl_le (by omega)
      have HVE : Hid (65536 ^ Q * (M * E) = M * 2 ^ n) := by
        show _ = _
        rw [hE, show (65536 : Nat) = 2 ^ 16 by decide, ← Nat.pow_mul, Nat.mul_left_comm, ← Nat.pow_add, show 16 * Q + R = n by omega]
      have HOF : Hid (Unit → _) := fun (_ : Unit) => fun W => refOf_any E W (by omega)
      have HMU : Hid (∀ (W : World) (y : Value), Fresh w W → Rn W y E → Calls Tryz.prog 40 #[.slice xa X.length xc, y] W fun e w' => ∃ v', e = .returned v' ∧ (Rn w' v' (M * E) ∧ Fresh W w')) := fun W y hF hy => refMul_any _ y M E W ((HRN.out ()).fresh hF) hy (by omega)
      have HFT : Hid (∀ (W : World) (y : Value), Rn W y (M * 2 ^ n) → Calls Tryz.prog 44 #[y] W fun e w' => ∃ v', e = .returned (.tuple #[v', .int .i64 (fitE (M * 2 ^ n))]) ∧ Rn W v' (fitN (M * 2 ^ n)) ∧ w' = W) := fun W y hy => refFit_any y _ W hy
      have HMZ : Hid (M * E ≠ 0) := by
        have : 0 < M * E := Nat.mul_pos (by omega) hE0
        exact Nat.pos_iff_ne_zero.1 this
      have HBM : Hid (bl (M * E) ≤ 65553) := Nat.le_trans (bl_mul M E) (by omega)
      obtain ⟨FE, hFE⟩ : ∃ x, x = fitE (M * 2 ^ n) := ⟨_, rfl⟩
      obtain ⟨T, hT⟩ : ∃ T, T = M * 2 ^ n := ⟨_, rfl⟩
      rw [← hFE] at HFT ⊢
      rw [← hT] at HFT HVE ⊢
      have hb' : ¬ (65536 : Int) < (n : Int) := by omega
      clear hX hdg hlX hv hc hbu HRN hFE hT hQ hR hE hM hX0
      go_enter Tryz.func29, Tryz.ntmps29
      go_wp2_with (at_make; refine wpList_make_full _ rfl _ _ _ rfl w.heap.size 3 i0 _ 1 Tryz.underlying31 hi hz0 hz1 _ _ _ _ Q rfl rfl rfl rfl (by rw [hz2]; omega) (by unfold maxLen; omega) (by omega) ?_; intro w2 hown2 hgrow2)
      have hk2 : Fresh w w2 := (Kept.refl _ w).grown hgrow2 (fun k _ e => by cases e)
      rw [show (Value.int .i64 0).cells = #[.int .i64 0] from rfl, Nat.mul_one, madeZeros] at hown2
      have HOW := show Hid _ from hown2
      have HK2 := show Hid _ from hk2
      clear hgrow2 hown2 hk2
      refine (HOF.out () _).mono ?_
      rintro e w3 ⟨ev, rfl, hR3, hF3⟩
      obtain ⟨ea, en, ec, rfl⟩ := hR3.shape
      have HF3 : Hid (Fresh w w3) := HK2.out.trans hF3 (fun _ _ e => e)
      have HO3 := show Hid _ from ownF HOW.out hF3
      have HM3 : Hid (Unit → _) := fun (_ : Unit) => HMU.out w3 _ HF3.out hR3
      clear HOF hR3 hF3 HK2 HOW HMU
      go_wp2_with fail
      refine (HM3.out ()).mono ?_
      rintro e w4 ⟨pv, rfl, hR4, hF4⟩
      have HF4 : Hid (Fresh w w4) := HF3.out.trans hF4 (fun _ _ e => e)
      have hown4 := ownF HO3.out hF4
      obtain ⟨L, hL, hcL, hvL⟩ := hR4
      have hdL := hL.dg
      have hlL := rn_len hdL hcL
      rw [hvL] at hlL
      have hLl : L.length ≤ 4098 := by have := HBM.out; omega
      have hL0 : L ≠ [] := fun e => HMZ.out (by rw [← hvL, e]; rfl)
      have hLp : 0 < L.length := List.length_pos_iff.2 hL0
      obtain ⟨pa, pc, rfl, _, _, hcell, _, _⟩ := hL
      obtain ⟨pb, po, rfl, _, hpb, hce⟩ := hcell hL0
      have hnews : ∀ (j : Nat) (u : Value), (enW .i64 L)[j]? = some u → w4.cell? ((⟨pb, po, none⟩ : Addr).add j) = some u := fun j u hj => by
        have hj' : j < L.length := by have := (List.getElem?_eq_some_iff.1 hj).1; simpa using this
        rw [List.getElem?_map, List.getElem?_eq_getElem hj'] at hj
        simp only [Option.map_some, Option.some.injEq] at hj
        have := hce j hj'
        rw [List.getD_eq_getElem?_getD, List.getElem?_eq_getElem hj'] at this
        rw [← hj, Addr.add_lit]
        exact this
      have hone : ∀ u ∈ enW .i64 L, u.oneCell' = true := fun u hu => by obtain ⟨_, _, rfl⟩ := List.mem_map.1 hu; rfl
      have hW4 := HF4.out.size
      have HDL : Hid (Dg 65536 (List.replicate Q 0 ++ L)) := (Dg.zeros (by decide) _).append hdL
      have HCL : Hid (Can (List.replicate Q 0 ++ L)) := by
        show Can _
        rcases List.eq_nil_or_concat L with e | ⟨A, d, e⟩
        · exact absurd e hL0
        · rw [e, List.concat_eq_append, ← List.append_assoc]
          exact can_snoc (fun h0 => hcL (by rw [e]; simp [h0]))
      have HVL : Hid (val 65536 (List.replicate Q 0 ++ L) = T) := by
        show _ = _
        rw [val_append, val_zeros, List.length_replicate, Nat.zero_add, hvL]
        exact HVE.out
      clear hcell hce hF4 HM3 HO3 HF3 hlL hdL hcL hvL HVE HBM HMZ
      go_wp2_with (at_builtin; refine wpList_append_lies _ rfl _ _ _ rfl w.heap.size 3 i0 _ 1 8 Tryz.underlying31 hi hz0 hz1 hz2 rfl (by omega) (.slice (some ⟨w.heap.size, 0, none⟩) Q Q) _ _ rfl hown4 ⟨pb, po, none⟩ L.length pc (enW .i64 L) rfl (by simp) hnews hone hLp (by unfold maxLen; omega) (by omega) (by omega) w4.heap.size rfl ?_; intro g cap w5 hown5 hgrow hat hlt)
      have hk5 : Kept (fun k => (Value.slice (some ⟨w.heap.size, 0, none⟩) Q Q).ownBlock = some k) w4 w5 := (Kept.refl _ w4).grown hgrow (fun k _ e => e)
      have hF5 : Fresh w w5 := HF4.out.trans hk5 (fun i hi e => by
        have := (World.ownsRow.lt hown4 i e).1
        omega)
      rw [show enW .i64 (List.replicate Q 0) ++ enW .i64 L = enW .i64 (List.replicate Q 0 ++ L) by simp [enW]] at hown5
      have hRn : Rn w5 (.slice (some ⟨g, 0, none⟩) (Q + L.length) cap) T := by
        have h1 := rn_of_own (X := List.replicate Q 0 ++ L) (by rw [List.length_append, List.length_replicate]; exact hown5) HDL.out HCL.out (by rw [List.length_append, List.length_replicate]; omega)
        rw [HVL.out] at h1
        exact h1
      have HR5 : Hid (Unit → _) := fun (_ : Unit) => hRn
      have HF5 := show Hid _ from hF5
      have HFi : Hid (Unit → _) := fun (_ : Unit) => HFT.out w5 _ hRn
      clear hown4 hown5 hgrow hat hlt hk5 hF5 hRn HFT HDL HCL HVL HF4 hnews hone hpb hW4
      go_wp2_with fail
      refine (HFi.out ()).mono ?_
      rintro e w6 ⟨fv, rfl, hR6, hw6⟩
      subst hw6
      clear HFi hR6
      go_wp2
      refine bodyPost_ret (v := .tuple #[.slice (some ⟨g, 0, none⟩) (Q + L.length) cap, .bool (decide (FE = 0))]) ?_ rfl ⟨_, rfl, fun _ => HR5.out (), ⟨_, _, _, rfl⟩, HF5.out⟩
      simp [results, Tryz.results29, go_sem]
      by_cases h0 : FE = 0 <;> simp [h0]
end Go.Proofs.YtdmjfmipalifpaaGreatDoor
