/-
  The document's Product; whether a number is the document's.
-/
import Derived.Test.YtgdkbiidjaplhaaDoorPd
import Derived.Test.YtgdkbiidjaplhaaDoorRfd
import Derived.Test.YtgdkbiidjaplhaaDoorIsa
import Derived.Test.YtgdkbiidjaplhaaDoorRfe
namespace Go.Proofs.YtgdkbiidjaplhaaDoor
open Go.RowKit

theorem rn_one (w : World) : Rn (w.alloc (.cells #[.int .i64 1] 3)) (.slice (some ⟨w.heap.size, 0, none⟩) 1 1) 1 := by
  have hO : Ow 3 .i64 (w.alloc (.cells #[.int .i64 1] 3)) w.heap.size [] [1] [] := heap_alloc_new w _
  exact ⟨[1], Dw.mono (hO.dw (B := 65536) (cap := 1) (Dg.one (by omega)) (by simp) (by simp) (by omega)) (fun _ _ _ => trivial), by simp [Can], by simp [val]⟩

set_option maxHeartbeats 2000000 in
set_option maxRecDepth 100000 in
theorem refProduct_any (v : Value) (zs : List Int) (w : World) (h : Rw w v zs) :
    Calls Tryd.prog 9 #[v] w fun e w' => ∃ v', e = .returned (.tuple #[v', .int .i64 (pE zs)]) ∧ (Rn w' v' (pV zs) ∧ Fresh w w') := by
  have HR := show Hid _ from h
  have hI := h.get
  obtain ⟨ao, cap, rfl, hl, hc, hzI, hn⟩ := h
  obtain ⟨FE, hFE⟩ : ∃ x, x = pE zs := ⟨_, rfl⟩
  obtain ⟨FV, hFV⟩ : ∃ x, x = pV zs := ⟨_, rfl⟩
  rw [← hFE, ← hFV]
  have HFE := show Hid _ from hFE
  have HFV := show Hid _ from hFV
  have HO := show Hid _ from rn_one w
  have hF0 : Fresh w (w.alloc (.cells #[.int .i64 1] 3)) := (Kept.refl _ _).alloc _
  have HF0 := show Hid _ from hF0
  clear hFE hFV hF0 hzI
  go_enter Tryd.func9, Tryd.ntmps9
  go_wp2_with fail
  go_loop [4, 5, 13] (fun ov bv iv => ∃ (j : Nat), j ≤ zs.length ∧ iv = .int .i64 (j : Int) ∧ bv = .bool false ∧ (ov = .slice (some ⟨w.heap.size, 0, none⟩) 1 1 ∧ Hid (∀ z ∈ zs.take j, 0 < z) ∨ ov = .slice none 0 0 ∧ Hid ((0 : Int) ∈ zs.take j)) ∧ Hid (∀ z ∈ zs.take j, 0 ≤ z)) (fun _ _ iv => zs.length - (intOf iv).toNat)
  case atStart => exact ⟨0, by omega, rfl, rfl, .inl ⟨rfl, fun z hz => by simp at hz⟩, fun z hz => by simp at hz⟩
  case round =>
    obtain ⟨j, hj, rfl, rfl, hov, HNN⟩ := hrel
    by_cases hlt : j < zs.length
    · obtain ⟨b, off, rfl, hb, hcell⟩ := hc (fun e => by rw [e] at hlt; simp at hlt)
      have hcu : (w.alloc (.cells #[.int .i64 1] 3)).cell? ⟨b, off + j, none⟩ = some (.int .i64 (zs.getD j 0)) := (HF0.out.cell (p := ⟨b, off + j, none⟩) hb (fun e => e)).trans (hcell j hlt)
      have hgl : zs.getD j 0 = zs[j] := by rw [List.getD_eq_getElem?_getD, List.getElem?_eq_getElem hlt]; rfl
      have hmem : zs.getD j 0 ∈ zs := by rw [hgl]; exact List.getElem_mem hlt
      have htk : zs.take (j + 1) = zs.take j ++ [zs.getD j 0] := by rw [List.take_succ_eq_append_getElem hlt, hgl]
      have hj0 : (0 : Int) ≤ (j : Int) := by omega
      have hj1 : (j : Int) < (zs.length : Int) := by omega
      have HTK := show Hid _ from htk
      obtain ⟨o1, o2, o3, hsh⟩ : ∃ a n c, u4 = .slice a n c := by
        rcases hov with ⟨h, _⟩ | ⟨h, _⟩
        · exact ⟨_, _, _, h⟩
        · exact ⟨_, _, _, h⟩
      subst hsh
      have HOV := show Hid _ from hov
      have HMEM := show Hid _ from hmem
      clear hcell hc htk hov hmem hgl
      generalize zs.getD j 0 = Z at *
      by_cases hz : Z < 0
      · have hneg : ∃ z ∈ zs, z < 0 := ⟨Z, HMEM.out, hz⟩
        have hfe : FE = 40 := by rw [HFE.out]; unfold pE; rw [if_pos hneg]
        have hfv : FV = 0 := by rw [HFV.out]; unfold pV; rw [if_pos (.inl hneg)]
        subst hfe hfv
        clear HFE HFV hneg HOV
        go_wp2
        go_ret2
        exact ⟨_, rfl, rn_nil _, HF0.out⟩
      · by_cases hz0 : Z = 0
        · subst hz0
          have HNN' : Hid (∀ z ∈ zs.take (j + 1), 0 ≤ z) := fun z hz => by
            rw [HTK.out] at hz
            rcases List.mem_append.1 hz with h | h
            · exact HNN.out z h
            · simp at h; omega
          have HZ' : Hid ((0 : Int) ∈ zs.take (j + 1)) := by show _ ∈ _; rw [HTK.out]; simp
          clear HOV HNN
          go_wp2
          go_round
          case rel => exact ⟨j + 1, by omega, by go_num, rfl, .inr ⟨rfl, HZ'⟩, HNN'⟩
          case measure => simp [intOf]; omega
        · have HNN' : Hid (∀ z ∈ zs.take (j + 1), 0 ≤ z) := fun z hz => by
            rw [HTK.out] at hz
            rcases List.mem_append.1 hz with h | h
            · exact HNN.out z h
            · simp at h; omega
          have HOV' : Hid (Value.slice o1 o2 o3 = .slice (some ⟨w.heap.size, 0, none⟩) 1 1 ∧ Hid (∀ z ∈ zs.take (j + 1), 0 < z) ∨ Value.slice o1 o2 o3 = .slice none 0 0 ∧ Hid ((0 : Int) ∈ zs.take (j + 1))) := by
            rcases HOV.out with ⟨h1, h2⟩ | ⟨h1, h2⟩
            · refine .inl ⟨h1, fun z hz' => ?_⟩
              rw [HTK.out] at hz'
              rcases List.mem_append.1 hz' with h | h
              · exact h2.out z h
              · simp at h; omega
            · refine .inr ⟨h1, ?_⟩
              show _ ∈ _
              rw [HTK.out]
              exact List.mem_append_left _ h2.out
          have hzb : (Z == 0) = false := by simpa using hz0
          clear HOV HNN
          go_wp2
          go_round
          case rel => exact ⟨j + 1, by omega, by go_num, rfl, HOV'.out, HNN'⟩
          case measure => simp [intOf]; omega
    · obtain rfl : j = zs.length := by omega
      have hnn := HNN.out
      rw [List.take_of_length_le (Nat.le_refl _)] at hnn hov
      have hneg : ¬ ∃ z ∈ zs, z < 0 := fun ⟨z, hz, c⟩ => by have := hnn z hz; omega
      rcases hov with ⟨rfl, HP⟩ | ⟨rfl, HZ⟩
      · have h0 : ¬ (0 : Int) ∈ zs := fun h => by have := HP.out 0 h; omega
        have HFE' : Hid (FE = fitE (prodN zs)) := by show _ = _; rw [HFE.out]; unfold pE; rw [if_neg hneg, if_neg h0]
        have HFV' : Hid (FV = fitN (prodN zs)) := by show _ = _; rw [HFV.out]; unfold pV; rw [if_neg (fun c => c.elim hneg h0)]
        clear HFE HFV hneg h0 hnn HNN
        go_wp2_with fail
        go_loopw [4, 5, 27] (fun ov bv iv wr => ∃ (j : Nat) (bg : Bool), j ≤ zs.length ∧ iv = .int .i64 (j : Int) ∧ bv = .bool bg ∧ (bg = false ∧ Hid (Rn wr ov (prodN (zs.take j))) ∧ bl (prodN (zs.take j)) ≤ 65536 ∨ bg = true ∧ 65536 < bl (prodN zs) ∧ ∃ a n c, ov = .slice a n c) ∧ Fresh w wr) (fun _ _ iv _ => zs.length - (intOf iv).toNat)
        case atStart => exact ⟨0, false, by omega, rfl, rfl, .inl ⟨rfl, HO, by rw [List.take_zero]; decide⟩, HF0.out⟩
        case round =>
          clear HO
          obtain ⟨j, bg, hj, rfl, rfl, hst, hF⟩ := hrel
          by_cases hlt : j < zs.length
          · obtain ⟨b, off, rfl, hb, hcell⟩ := hc (fun e => by rw [e] at hlt; simp at hlt)
            have hcu : wr.cell? ⟨b, off + j, none⟩ = some (.int .i64 (zs.getD j 0)) := (hF.cell (p := ⟨b, off + j, none⟩) hb (fun e => e)).trans (hcell j hlt)
            have hzI := hI j
            have hz0 : 0 < zs.getD j 0 := HP.out _ (by rw [List.getD_eq_getElem?_getD, List.getElem?_eq_getElem hlt]; exact List.getElem_mem hlt)
            obtain ⟨n, hn'⟩ : ∃ n : Nat, zs.getD j 0 = (n : Int) := ⟨(zs.getD j 0).toNat, by omega⟩
            have hsucc := prodN_succ zs j hlt
            rw [hn', Int.toNat_natCast] at hsucc
            rw [hn'] at hcu hz0
            have hnl : n < 9223372036854775808 := by have := hzI.2; omega
            have hbn : bl n ≤ 63 := bl_le (by omega)
            have hj0 : (0 : Int) ≤ (j : Int) := by omega
            have hj1 : (j : Int) < (zs.length : Int) := by omega
            rcases hst with ⟨rfl, HRn, hbl⟩ | ⟨rfl, hbig, a, k, c, rfl⟩
            · obtain ⟨oa, on, oc, rfl⟩ := Rn.shape HRn.out
              have hof := refOf_any n wr hnl
              have HS := show Hid _ from hsucc
              clear hcell hc hn' hsucc
              go_wp2_with fail
              refine hof.mono ?_
              rintro e w3 ⟨v3, rfl, hN3, hF3⟩
              have hmu := refMul_any _ _ _ _ w3 (Rn.fresh HRn.out hF3) hN3 (by omega)
              rw [← HS.out] at hmu
              obtain ⟨a3, k3, c3, rfl⟩ := hN3.shape
              have hF3' : Fresh w w3 := hF.trans hF3 (fun _ _ e => e)
              clear hof hN3 hF3 HRn
              go_wp2_with fail
              refine hmu.mono ?_
              rintro e w4 ⟨v4, rfl, hN4, hF4⟩
              have hF4' : Fresh w w4 := hF3'.trans hF4 (fun _ _ e => e)
              have hbi := refBits_any _ _ w4 hN4
              obtain ⟨a4, k4, c4, rfl⟩ := hN4.shape
              have HN4 := show Hid _ from hN4
              have HF4 := show Hid _ from hF4'
              obtain ⟨K, hK⟩ : ∃ K, K = bl (prodN (zs.take (j + 1))) := ⟨_, rfl⟩
              rw [← hK] at hbi
              have HK := show Hid _ from hK
              clear hmu hN4 hF4 hF4' hF3' hK
              go_wp2_with fail
              refine hbi.mono ?_
              rintro e w5 ⟨rfl, rfl⟩
              by_cases hb2 : 65536 < K
              · have hKd : decide ((65536 : Int) < (K : Int)) = true := by rw [decide_eq_true_iff]; omega
                have hbt : 65536 < bl (prodN zs) := Nat.lt_of_lt_of_le (by rw [← HK.out]; exact hb2) (bl_mono (prodN_le zs (j + 1) HP.out))
                go_wp2
                go_roundw
                case rel => exact ⟨j + 1, true, by omega, by go_num, rfl, .inr ⟨rfl, hbt, _, _, _, rfl⟩, HF4.out⟩
                case measure => simp [intOf]; omega
              · have hKd : decide ((65536 : Int) < (K : Int)) = false := by rw [decide_eq_false_iff_not]; omega
                have hbt : bl (prodN (zs.take (j + 1))) ≤ 65536 := by rw [← HK.out]; omega
                go_wp2
                go_roundw
                case rel => exact ⟨j + 1, false, by omega, by go_num, rfl, .inl ⟨rfl, HN4, hbt⟩, HF4.out⟩
                case measure => simp [intOf]; omega
            · have HF := show Hid _ from hF
              clear hcell hc hn' hsucc hF
              go_wp2
              go_roundw
              case rel => exact ⟨j + 1, true, by omega, by go_num, rfl, .inr ⟨rfl, hbig, _, _, _, rfl⟩, HF.out⟩
              case measure => simp [intOf]; omega
          · obtain rfl : j = zs.length := by omega
            rw [List.take_of_length_le (Nat.le_refl _)] at hst
            have HF := show Hid _ from hF
            rcases hst with ⟨rfl, HRn, hbl⟩ | ⟨rfl, hbig, a, k, c, rfl⟩
            · obtain ⟨oa, on, oc, rfl⟩ := Rn.shape HRn.out
              obtain ⟨q1, q2⟩ := fit_in hbl
              have hfe : FE = 0 := by rw [HFE'.out, q2]
              have HRn' : Hid (Rn wr (.slice oa on oc) FV) := by rw [HFV'.out, q1]; exact HRn
              subst hfe
              clear q1 q2 HFE' hF hbl HRn hc
              go_wp2
              go_ret2
              exact ⟨_, rfl, HRn'.out, HF.out⟩
            · obtain ⟨q1, q2⟩ := fit_out hbig
              have hfe : FE = 41 := by rw [HFE'.out, q2]
              have hfv : FV = 0 := by rw [HFV'.out, q1]
              subst hfe hfv
              clear q1 q2 HFE' HFV' hF hbig hc
              go_wp2
              go_ret2
              exact ⟨_, rfl, rn_nil _, HF.out⟩
      · have h0 := HZ.out
        have hfe : FE = 0 := by rw [HFE.out]; unfold pE; rw [if_neg hneg, if_pos h0]
        have hfv : FV = 0 := by rw [HFV.out]; unfold pV; rw [if_pos (.inr h0)]
        subst hfe hfv
        clear HFE HFV hneg h0 hnn HNN HZ hc
        go_wp2
        go_ret2
        exact ⟨_, rfl, rn_nil _, HF0.out⟩

end Go.Proofs.YtgdkbiidjaplhaaDoor
