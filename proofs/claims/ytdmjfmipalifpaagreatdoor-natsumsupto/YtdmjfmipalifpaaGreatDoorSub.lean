/-
  Differences of the document's numbers; fit.
-/
import Derived.Test.YtdmjfmipalifpaaGreatDoorSua
import Derived.Test.YtdmjfmipalifpaaGreatDoorGva
namespace Go.Proofs.YtdmjfmipalifpaaGreatDoor
open Go.RowKit

theorem fit_any (v : Value) (N : Nat) (w : World) (h : Rn w v N) :
    Calls Tryz.prog 24 #[v] w fun e w' => ∃ v', e = .returned (.tuple #[v', .int .i64 (fitE N)]) ∧ Rn w v' (fitN N) ∧ w' = w := by
  have hf := refFit_any v N w h
  obtain ⟨a, n, c, rfl⟩ := h.shape
  have HFT : Hid (Unit → _) := fun (_ : Unit) => hf
  clear hf h
  obtain ⟨FE, hFE⟩ : ∃ x, x = fitE N := ⟨_, rfl⟩
  rw [← hFE] at HFT ⊢
  clear hFE
  go_enter Tryz.func24, Tryz.ntmps24
  go_wp2_with fail
  refine (HFT.out ()).mono ?_
  rintro e w1 ⟨v1, rfl, hR, hw1⟩
  subst hw1
  obtain ⟨a1, n1, c1, rfl⟩ := hR.shape
  have HR : Hid (Unit → _) := fun (_ : Unit) => hR
  clear hR HFT
  go_wp2
  go_ret2
  exact ⟨_, rfl, HR.out (), rfl⟩

set_option maxHeartbeats 2000000 in
set_option maxRecDepth 100000 in
theorem refSub_any (xv yv : Value) (M N : Nat) (w : World) (hx : Rn w xv M) (hy : Rn w yv N) (hb : bl M ≤ 1099511627776) (hle : N ≤ M) :
    Calls Tryz.prog 27 #[xv, yv] w fun e w' => ∃ v', e = .returned v' ∧ (Rn w' v' (M - N) ∧ Fresh w w') := by
  obtain ⟨i0, hi, hz0, hz1, hz2⟩ := info_parts Tryz.infoI
  obtain ⟨X, hX, hcX, hvX⟩ := hx
  obtain ⟨Y, hY, hcY, hvY⟩ := hy
  have hlX := rn_len hX.dg hcX
  rw [hvX] at hlX
  have hXl : X.length ≤ 68719476737 := by omega
  have hdX := hX.dg
  have hdY := hY.dg
  have hYX : Y.length ≤ X.length := by
    rcases Nat.lt_or_ge X.length Y.length with e | e
    · have := cmp_len (B := 65536) (by decide) hdX hcY e
      omega
    · exact e
  obtain ⟨xa, xc, hxv⟩ := hX.shape
  obtain ⟨ya, yc, rfl⟩ := hY.shape
  have HX : Hid (∀ i, i < X.length → ∃ b off, xa = some ⟨b, off, none⟩ ∧ b < w.heap.size ∧ w.cell? ⟨b, off + i, none⟩ = some (.int .i64 ((X.getD i 0 : Nat) : Int))) := fun i hi => hX.at hxv i hi
  subst hxv
  have HY := show Hid _ from hY
  have HV : Hid (val 65536 X = M ∧ val 65536 (Y.take X.length) = N) := ⟨hvX, by rw [List.take_of_length_le hYX]; exact hvY⟩
  have HLE := show Hid _ from hle
  generalize hm : X.length = m at *
  have HM := show Hid _ from hm
  clear hX hY hlX hcX hcY hvX hvY hb hle hm
  go_enter Tryz.func27, Tryz.ntmps27
  go_wp2_with fail
  go_loopw [5, 6, 12] (fun ov cv iv wr => ∃ (Z : List Nat) (c : Nat), Z.length ≤ m ∧ iv = .int .i64 (Z.length : Int) ∧ cv = .int .i64 (c : Int) ∧ c ≤ 1 ∧ Dg 65536 Z ∧ Hid (val 65536 Z + val 65536 (Y.take Z.length) = val 65536 (X.take Z.length) + 65536 ^ Z.length * c) ∧ wr.ownsRow w.heap.size 3 1 ov Z.length (enW .i64 Z) ∧ Fresh w wr) (fun _ _ iv _ => m - (intOf iv).toNat)
  case atStart => exact ⟨[], 0, by simp, rfl, rfl, by omega, Dg.nil _, by simp [Hid, val], ownI_empty w, (Kept.refl _ _).alloc _⟩
  case round =>
    obtain ⟨Z, c, hZ, rfl, rfl, hc, hdZ, HVZ, hown, hF⟩ := hrel
    by_cases hlt : Z.length < m
    · have hat2 := refAt_any _ _ Y Z.length wr.drew (Dw.fresh HY.out hF.drew) (by omega)
      obtain ⟨xb, xo, rfl, hxb, hxe⟩ := HX.out Z.length hlt
      have hx1 := (hF.cell (p := ⟨xb, xo + Z.length, none⟩) hxb (fun e => e)).trans hxe
      have hxd := Dg.getD (by omega) hdX Z.length
      have hyd := Dg.getD (by omega) hdY Z.length
      have HST : Hid (∀ R Q : Nat, R + Y.getD Z.length 0 + c = X.getD Z.length 0 + 65536 * Q → val 65536 (Z ++ [R]) + val 65536 (Y.take (Z.length + 1)) = val 65536 (X.take (Z.length + 1)) + 65536 ^ (Z.length + 1) * Q) := fun R Q h => sub_step HVZ.out h
      have hj0 : (0 : Int) ≤ (Z.length : Int) := by omega
      have hj1 : (Z.length : Int) < (m : Int) := by omega
      have HAT : Hid (Unit → _) := fun (_ : Unit) => hat2
      generalize X.getD Z.length 0 = D at *
      generalize Y.getD Z.length 0 = E at *
      obtain ⟨xa', xc', rfl⟩ : ∃ a c, u5 = .slice a Z.length c := by
        rcases hown.2 with ⟨h, h0⟩ | ⟨g, cap, cur, h, _⟩
        · exact ⟨none, 0, by rw [h, h0]⟩
        · exact ⟨_, cap, h⟩
      have hW := hF.size
      have hownd : wr.drew.ownsRow w.heap.size 3 1 (.slice xa' Z.length xc') Z.length (enW .i64 Z) := hown
      clear HVZ hat2 HX HY HV HLE HM hxe
      by_cases hs : D < E + c
      · obtain ⟨R, hR⟩ : ∃ R : Nat, R = D + 65536 - E - c := ⟨_, rfl⟩
        have hRl : R < 65536 := by omega
        have HS := show Hid _ from HST.out R 1 (by omega)
        have e1 : (D : Int) - (E : Int) - (c : Int) < 0 := by omega
        have e2 : (D : Int) - (E : Int) - (c : Int) + 65536 = (R : Int) := by omega
        clear HST hR hs
        go_wp2_with fail
        go_region_with (first | (go_at_call 50; refine (HAT.out ()).mono ?_; rintro e X5 ⟨rfl, rfl⟩))
        all_goals
          go_wp2_with (at_builtin; refine wpList_append_lies _ rfl _ _ _ rfl w.heap.size 3 i0 _ 1 8 Tryz.underlying31 hi hz0 hz1 hz2 rfl (by omega) (.slice xa' Z.length xc') _ _ rfl (hownd.alloc _) ⟨wr.drew.heap.size, 0, none⟩ 1 1 [.int .i64 (R : Int)] rfl rfl (World.news_of_block (cs := #[.int .i64 (R : Int)]) (t := 3) (fr := (0, 0)) (heap_alloc_new wr.drew _)) (by simp [Value.oneCell']) (by omega) (by unfold maxLen; omega) (by omega) (by simp; omega) (wr.drew.heap.size + 1) (by simp) ?_; intro g cap w2 hown2 hgrow hat hlt)
          have hk2 : Kept (fun k => (Value.slice xa' Z.length xc').ownBlock = some k) wr.drew w2 := ((Kept.refl _ wr.drew).alloc _).grown hgrow (fun k _ e => e)
          have hF2 : Fresh w w2 := hF.drew.trans hk2 (fun i hi e => by
            have := (World.ownsRow.lt hownd i e).1
            omega)
          rw [show enW .i64 Z ++ [.int .i64 (R : Int)] = enW .i64 (Z ++ [R]) by simp [enW]] at hown2
          have HO := show Hid _ from hown2
          have HF2 := show Hid _ from hF2
          clear hown hownd hown2 hgrow hat hk2 hF2 hF
          go_wp2
          go_roundw
        all_goals first
          | exact ⟨Z ++ [R], 1, by rw [List.length_append, List.length_singleton]; omega, by rw [List.length_append, List.length_singleton]; go_num, rfl, by omega, hdZ.append (Dg.one hRl), by rw [List.length_append, List.length_singleton]; exact HS, by rw [List.length_append, List.length_singleton]; exact HO.out, HF2.out⟩
          | (simp [intOf]; omega)
      · obtain ⟨R, hR⟩ : ∃ R : Nat, R = D - E - c := ⟨_, rfl⟩
        have hRl : R < 65536 := by omega
        have HS := show Hid _ from HST.out R 0 (by omega)
        have e1 : (D : Int) - (E : Int) - (c : Int) = (R : Int) := by omega
        clear HST hR hs
        go_wp2_with fail
        go_region_with (first | (go_at_call 50; refine (HAT.out ()).mono ?_; rintro e X5 ⟨rfl, rfl⟩))
        all_goals
          go_wp2_with (at_builtin; refine wpList_append_lies _ rfl _ _ _ rfl w.heap.size 3 i0 _ 1 8 Tryz.underlying31 hi hz0 hz1 hz2 rfl (by omega) (.slice xa' Z.length xc') _ _ rfl (hownd.alloc _) ⟨wr.drew.heap.size, 0, none⟩ 1 1 [.int .i64 (R : Int)] rfl rfl (World.news_of_block (cs := #[.int .i64 (R : Int)]) (t := 3) (fr := (0, 0)) (heap_alloc_new wr.drew _)) (by simp [Value.oneCell']) (by omega) (by unfold maxLen; omega) (by omega) (by simp; omega) (wr.drew.heap.size + 1) (by simp) ?_; intro g cap w2 hown2 hgrow hat hlt)
          have hk2 : Kept (fun k => (Value.slice xa' Z.length xc').ownBlock = some k) wr.drew w2 := ((Kept.refl _ wr.drew).alloc _).grown hgrow (fun k _ e => e)
          have hF2 : Fresh w w2 := hF.drew.trans hk2 (fun i hi e => by
            have := (World.ownsRow.lt hownd i e).1
            omega)
          rw [show enW .i64 Z ++ [.int .i64 (R : Int)] = enW .i64 (Z ++ [R]) by simp [enW]] at hown2
          have HO := show Hid _ from hown2
          have HF2 := show Hid _ from hF2
          clear hown hownd hown2 hgrow hat hk2 hF2 hF
          go_wp2
          go_roundw
        all_goals first
          | exact ⟨Z ++ [R], 0, by rw [List.length_append, List.length_singleton]; omega, by rw [List.length_append, List.length_singleton]; go_num, rfl, by omega, hdZ.append (Dg.one hRl), by rw [List.length_append, List.length_singleton]; exact HS, by rw [List.length_append, List.length_singleton]; exact HO.out, HF2.out⟩
          | (simp [intOf]; omega)
    · obtain hZm : Z.length = m := by omega
      have hv := HVZ.out
      have hzl := val_lt (B := 65536) (by decide) hdZ
      rw [hZm, HV.out.2, List.take_of_length_le (by rw [HM.out]; exact Nat.le_refl _), HV.out.1] at hv
      rw [hZm] at hzl
      have hvN := sub_end hv hzl HLE.out
      have hR := refCut_any _ u5 _ wr (nd_of_own hown hdZ (by omega))
      rw [hvN] at hR
      have HR : Hid (Unit → _) := fun (_ : Unit) => hR
      obtain ⟨oa, on, oc, rfl⟩ : ∃ a n c, u5 = .slice a n c := by
        rcases hown.2 with ⟨h, h0⟩ | ⟨g, cap, cur, h, _⟩
        · exact ⟨none, 0, 0, h⟩
        · exact ⟨_, _, cap, h⟩
      have HF := show Hid _ from hF
      clear hR hown hF HX HY HV HLE HM hzl hv hvN hdZ HVZ
      go_wp2_with fail
      refine (HR.out ()).mono ?_
      rintro e w2 ⟨v2, rfl, hN, rfl⟩
      go_wp2
      go_ret
      exact ⟨_, rfl, hN, HF.out⟩
end Go.Proofs.YtdmjfmipalifpaaGreatDoor
