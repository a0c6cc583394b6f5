/-
  The document's sum.
-/
import Derived.Test.YtdmjfmipalifpaaGreatDoorRfc
import Derived.Deep.DeepCutAuto
import Derived.Deep.CutBlock
namespace Go.Proofs.YtdmjfmipalifpaaGreatDoor
open Go.RowKit

/-- The top digit of a number. -/
theorem can_top {L : List Nat} (h : Can L) {i : Nat} (hi : i < L.length) (h1 : L.length ≤ i + 1) : L.getD i 0 ≠ 0 := fun e => by
  unfold Can at h
  rw [List.getLast?_eq_getElem?, show L.length - 1 = i by omega, List.getElem?_eq_getElem hi] at h
  rw [List.getD_eq_getElem?_getD, List.getElem?_eq_getElem hi] at e
  exact h (congrArg some e)
theorem getD_none {L : List Nat} {i : Nat} (h : L.length ≤ i) : L.getD i 0 = 0 := by
  rw [List.getD_eq_getElem?_getD, List.getElem?_eq_none h]
  rfl

set_option maxHeartbeats 2000000 in
set_option maxRecDepth 100000 in
theorem refAdd_any (xv yv : Value) (M N : Nat) (w : World) (hx : Rn w xv M) (hy : Rn w yv N) (hb : bl M + bl N ≤ 1099511627776) :
    Calls Tryz.prog 25 #[xv, yv] w fun e w' => ∃ v', e = .returned v' ∧ (Rn w' v' (M + N) ∧ Fresh w w') := by
  obtain ⟨i0, hi, hz0, hz1, hz2⟩ := info_parts Tryz.infoI
  obtain ⟨X, hX, hcX, rfl⟩ := hx
  obtain ⟨Y, hY, hcY, rfl⟩ := hy
  have hlX := rn_len hX.dg hcX
  have hlY := rn_len hY.dg hcY
  have hdX := hX.dg
  have hdY := hY.dg
  obtain ⟨xa, xc, rfl⟩ := hX.shape
  obtain ⟨ya, yc, rfl⟩ := hY.shape
  have HX := show Hid _ from hX
  have HY := show Hid _ from hY
  have HCX := show Hid _ from hcX
  have HCY := show Hid _ from hcY
  obtain ⟨K, hK1, hK2, hK3, hK4⟩ : ∃ K, X.length ≤ K ∧ Y.length ≤ K ∧ (K = X.length ∨ K = Y.length) ∧ K ≤ 137438953472 := by
    rcases Nat.le_total X.length Y.length with h | h
    · exact ⟨Y.length, h, Nat.le_refl _, .inr rfl, by omega⟩
    · exact ⟨X.length, Nat.le_refl _, h, .inl rfl, by omega⟩
  have HK3 := show Hid _ from hK3
  obtain ⟨V, hV⟩ : ∃ V, V = val 65536 X + val 65536 Y := ⟨_, rfl⟩
  rw [← hV]
  have HV := show Hid _ from hV
  clear hX hY hcX hcY hlX hlY hb hK3 hV
  go_enter Tryz.func25, Tryz.ntmps25
  go_wp2_with fail
  go_loopw [5, 6, 7] (fun ov cv iv wr => ∃ (Z : List Nat) (c : Nat), iv = .int .i64 (Z.length : Int) ∧ cv = .int .i64 (c : Int) ∧ c ≤ 1 ∧ Z.length ≤ K + 1 ∧ Hid (Z.length = K + 1 → c = 0) ∧ Hid (wr.ownsRow w.heap.size 3 1 ov Z.length (enW .i64 Z)) ∧ Hid (val 65536 Z + 65536 ^ Z.length * c = val 65536 (X.take Z.length) + val 65536 (Y.take Z.length)) ∧ Hid (Dg 65536 Z) ∧ Hid (X.length ≤ Z.length ∧ Y.length ≤ Z.length ∧ c = 0 → Can Z) ∧ Hid (Fresh w wr)) (fun _ _ iv _ => K + 1 - (intOf iv).toNat)
  case atStart => exact ⟨[], 0, rfl, rfl, by omega, by simp, fun _ => rfl, ownI_empty w, by simp [Hid, val], Dg.nil _, fun _ => Can.nil, (Kept.refl _ _).alloc _⟩
  case round =>
    obtain ⟨Z, c, rfl, rfl, hc, hZ, HEND, HO, HVZ, HDZ, HCZ, HF⟩ := hrel
    by_cases hgo : Z.length < X.length ∨ Z.length < Y.length ∨ 0 < c
    · have hZK : Z.length ≤ K := by
        rcases Nat.lt_or_ge Z.length (K + 1) with h | h
        · omega
        · have := HEND.out (by omega)
          omega
      go_upto_region 4 with fail
      go_cut [23] (fun b w' => b = .bool true ∧ w' = wr)
      case first =>
        clear HO HVZ HDZ HCZ HF HEND HX HY HCX HCY HV HK3 hdX hdY
        generalize Z.length = i at *
        generalize X.length = lx at *
        generalize Y.length = ly at *
        by_cases a : i < lx
        · go_wp2
          go_meet
          case rel => exact ⟨rfl, rfl⟩
        · by_cases b : i < ly
          · go_wp2
            go_meet
            case rel => exact ⟨rfl, rfl⟩
          · have hc' : 0 < c := by omega
            clear hgo
            go_wp2
            go_meet
            case rel => exact ⟨rfl, rfl⟩
      case rest =>
        obtain ⟨rfl, hwc⟩ := hcut
        have hwc' := hwc.symm
        clear hwc
        subst hwc'
        have hat1 := refAt_any _ _ X Z.length wr (Dw.fresh HX.out HF.out) (by omega)
        have hat2 := refAt_any _ _ Y Z.length wr (Dw.fresh HY.out HF.out) (by omega)
        have hxd := Dg.getD (by omega) hdX Z.length
        have hyd := Dg.getD (by omega) hdY Z.length
        have hstep := sum_step HVZ.out
        have HC' : Hid (X.length ≤ Z.length + 1 ∧ Y.length ≤ Z.length + 1 ∧ (X.getD Z.length 0 + Y.getD Z.length 0 + c) / 65536 = 0 → Can (Z ++ [(X.getD Z.length 0 + Y.getD Z.length 0 + c) % 65536])) := fun ⟨a, b, d⟩ => can_snoc (by
          rcases hgo with h | h | h
          · have := can_top HCX.out h a; omega
          · have := can_top HCY.out h b; omega
          · omega)
        have HE' : Hid (Z.length + 1 = K + 1 → (X.getD Z.length 0 + Y.getD Z.length 0 + c) / 65536 = 0) := fun e => by rw [getD_none (L := X) (by omega), getD_none (L := Y) (by omega)]; omega
        obtain ⟨D, hD⟩ : ∃ x, x = X.getD Z.length 0 := ⟨_, rfl⟩
        obtain ⟨E, hE⟩ : ∃ x, x = Y.getD Z.length 0 := ⟨_, rfl⟩
        rw [← hD] at hat1 hxd hstep HC' HE'
        rw [← hE] at hat2 hyd hstep HC' HE'
        obtain ⟨Q, hQ⟩ : ∃ x, x = (D + E + c) % 65536 := ⟨_, rfl⟩
        obtain ⟨R, hR⟩ : ∃ x, x = (D + E + c) / 65536 := ⟨_, rfl⟩
        rw [← hQ, ← hR] at hstep HC'
        rw [← hR] at HE'
        have HSTEP := show Hid _ from hstep
        have c1 : ((D : Int) + (E : Int) + (c : Int)) % 65536 = (Q : Int) := by omega
        have c2 : ((D : Int) + (E : Int) + (c : Int)).tmod 65536 = (Q : Int) := by rw [Int.tmod_eq_emod_of_nonneg (by omega)]; omega
        have c3 : ((D : Int) + (E : Int) + (c : Int)) / 65536 = (R : Int) := by omega
        have c4 : ((D : Int) + (E : Int) + (c : Int)).tdiv 65536 = (R : Int) := by rw [Int.tdiv_eq_ediv_of_nonneg (by omega)]; omega
        have hQl : Q < 65536 := by omega
        have hRl : R ≤ 1 := by omega
        have hown := HO.out
        have hW := HF.out.size
        obtain ⟨oa, oc, rfl⟩ : ∃ a c, u5 = .slice a Z.length c := by
          rcases hown.2 with ⟨h, h0⟩ | ⟨g, cap, cur, h, _⟩
          · exact ⟨none, 0, by rw [h, h0]⟩
          · exact ⟨_, cap, h⟩
        clear hD hE hQ hR hstep HVZ HCZ HEND hgo HO
        go_wp2_with fail
        refine hat1.mono ?_
        rintro e w1 ⟨rfl, rfl⟩
        go_wp2_with fail
        refine hat2.mono ?_
        rintro e w1 ⟨rfl, rfl⟩
        go_wp2_with (at_builtin; refine wpList_append_lies _ rfl _ _ _ rfl w.heap.size 3 i0 _ 1 8 Tryz.underlying31 hi hz0 hz1 hz2 rfl (by omega) (.slice oa Z.length oc) _ _ rfl (hown.alloc _) ⟨w1.heap.size, 0, none⟩ 1 1 [.int .i64 (Q : Int)] rfl rfl (World.news_of_block (cs := #[.int .i64 (Q : Int)]) (t := 3) (fr := (0, 0)) (heap_alloc_new w1 _)) (by simp [Value.oneCell']) (by omega) (by unfold maxLen; omega) (by omega) (by simp; omega) (w1.heap.size + 1) (by simp) ?_; intro g cap w2 hown2 hgrow hat hlt)
        have hk2 : Kept (fun k => (Value.slice oa Z.length oc).ownBlock = some k) w1 w2 := ((Kept.refl _ w1).alloc _).grown hgrow (fun k _ e => e)
        have hF2 : Fresh w w2 := Kept.trans HF.out hk2 (fun i hi e => by
          have := (World.ownsRow.lt hown i e).1
          omega)
        rw [show enW .i64 Z ++ [.int .i64 (Q : Int)] = enW .i64 (Z ++ [Q]) by simp [enW]] at hown2
        have HO2 := show Hid _ from hown2
        have HF2 := show Hid _ from hF2
        clear hown hown2 hgrow hat hlt hk2 hF2 HF
        have hlz : (Z ++ [Q]).length = Z.length + 1 := by simp
        have HR2 : Hid (val 65536 (Z ++ [Q]) + 65536 ^ (Z.length + 1) * R = val 65536 (X.take (Z.length + 1)) + val 65536 (Y.take (Z.length + 1))) := by have := HSTEP.out; rw [hlz] at this; exact this
        have HLZ := show Hid _ from hlz
        clear hlz HSTEP
        go_wp2
        go_roundw
        case rel => exact ⟨Z ++ [Q], R, by rw [HLZ.out]; go_num, rfl, hRl, by rw [HLZ.out]; omega, by rw [HLZ.out]; exact HE', by rw [HLZ.out]; exact HO2, by rw [HLZ.out]; exact HR2, Dg.append HDZ.out (Dg.one hQl), by rw [HLZ.out]; exact HC', HF2⟩
        case measure => simp [intOf]; omega
    · have a1 : X.length ≤ Z.length := by omega
      have a2 : Y.length ≤ Z.length := by omega
      have a3 : c = 0 := by omega
      subst a3
      have hv := HVZ.out
      rw [Nat.mul_zero, Nat.add_zero, List.take_of_length_le a1, List.take_of_length_le a2, ← HV.out] at hv
      have hR := rn_of_own HO.out HDZ.out (HCZ.out ⟨a1, a2, rfl⟩) (by omega)
      rw [hv] at hR
      obtain ⟨b1, n1, d1, rfl⟩ := hR.shape
      have HR := show Hid _ from hR
      clear hR hv HO HDZ HCZ HVZ HEND hgo HV
      generalize Z.length = i at *
      go_wp2
      go_ret
      exact ⟨_, rfl, HR.out, HF.out⟩
end Go.Proofs.YtdmjfmipalifpaaGreatDoor
