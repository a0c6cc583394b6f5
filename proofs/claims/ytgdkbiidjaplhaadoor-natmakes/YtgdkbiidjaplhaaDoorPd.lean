/-
  The program's Product.
-/
import Derived.Test.YtgdkbiidjaplhaaDoorWtw
import Derived.Test.YtgdkbiidjaplhaaDoorRi
import Derived.Test.YtgdkbiidjaplhaaDoorTa
import Derived.Deep.DeepCutAuto
import Derived.Deep.CutBlock
namespace Go.Proofs.YtgdkbiidjaplhaaDoor
open Go.RowKit

/-- The number and the error of a product. -/
def pV (l : List Int) : Nat := if (∃ z ∈ l, z < 0) ∨ (0 : Int) ∈ l then 0 else fitN (prodN l)
def pE (l : List Int) : Int := if ∃ z ∈ l, z < 0 then 40 else if (0 : Int) ∈ l then 0 else fitE (prodN l)

theorem contains_any (v : Value) (zs : List Int) (w : World) (h : Rw w v zs) :
    Calls Tryd.prog 17 #[v, .int .i64 0] w fun e w' => e = .returned (.bool (zs.contains 0)) ∧ w' = w := by
  obtain ⟨ao, cap, rfl, hl, hc, _, _⟩ := h
  rcases Classical.em (zs = []) with e | e
  · subst e
    exact Tryd.slices_Contains_int_empty ao cap 0 w
  · obtain ⟨b, off, rfl, _, hcell⟩ := hc e
    have := Tryd.slices_Contains_int b off zs.length cap zs 0 w (Nat.le_refl _) (by omega) hcell
    rwa [List.take_of_length_le (Nat.le_refl _)] at this

set_option maxHeartbeats 2000000 in
set_option maxRecDepth 100000 in
theorem product_any (v : Value) (zs : List Int) (w : World) (h : Rw w v zs) :
    Calls Tryd.prog 8 #[v] w fun e w' => ∃ v', e = .returned (.tuple #[.agg #[v'], .int .i64 (pE zs)]) ∧ (Nm w' v' (pV zs) ∧ Fresh w w') := by
  have HR := show Hid _ from h
  have hI := h.get
  obtain ⟨ao, cap, rfl, hl, hc, hzI, hn⟩ := h
  obtain ⟨FE, hFE⟩ : ∃ x, x = pE zs := ⟨_, rfl⟩
  obtain ⟨FV, hFV⟩ : ∃ x, x = pV zs := ⟨_, rfl⟩
  rw [← hFE, ← hFV]
  have HFE := show Hid _ from hFE
  have HFV := show Hid _ from hFV
  have HA := show Hid _ from Ax.made w (.slice none 0 0)
  obtain ⟨NG, hNG⟩ : ∃ x : Bool, x = decide (Lib.minOf zs < 0) := ⟨_, rfl⟩
  have HNG := show Hid _ from hNG
  clear hFE hFV hNG
  go_enter Tryd.func8, Tryd.ntmps8
  go_upto_region 1 with fail
  go_cut [17] (fun c w' => c = .bool NG ∧ w' = w.alloc (.cells #[.slice none 0 0] 27))
  case first =>
    rcases Classical.em (zs = []) with e | e
    · have hng : NG = false := by rw [HNG.out, e]; decide
      have HN0 := show Hid _ from hng
      have hz0 : ¬ 0 < zs.length := by rw [e]; simp
      clear hng e hc
      go_wp2
      go_meet
      case rel => exact ⟨by rw [HN0.out], rfl⟩
    · have hzp : 0 < zs.length := List.length_pos_iff.2 e
      obtain ⟨b, off, rfl, hb, hcell⟩ := hc e
      have hmin := Tryd.slices_Min_int b off zs.length cap zs (w.alloc (.cells #[.slice none 0 0] 27)) hzp (Nat.le_refl _) (by omega) (fun j hj => by rw [HA.out.fr.cell (p := ⟨b, off + j, none⟩) hb (fun e => e)]; exact hcell j hj)
      rw [List.take_of_length_le (Nat.le_refl _)] at hmin
      have hng := HNG.out
      clear hcell hc
      generalize Lib.minOf zs = MN at *
      have HNG2 := show Hid _ from hng
      clear hng HNG
      go_wp2_with fail
      refine hmin.mono ?_
      rintro e w1 ⟨rfl, rfl⟩
      go_wp2
      go_meet
      case rel => exact ⟨by rw [HNG2.out], rfl⟩
  case rest =>
    obtain ⟨rfl, rfl⟩ := hcut
    by_cases hneg : Lib.minOf zs < 0
    · have hng : NG = true := by rw [HNG.out]; simpa using hneg
      subst hng
      have hneg' := (minOf_neg zs).1 hneg
      have hfe : FE = 40 := by rw [HFE.out]; unfold pE; rw [if_pos hneg']
      have hfv : FV = 0 := by rw [HFV.out]; unfold pV; rw [if_pos (.inl hneg')]
      subst hfe hfv
      have hc0 := HA.out.c
      have HF0 := show Hid _ from HA.out.fr
      clear hc hzI hneg hneg' HA
      go_wp2
      exact bodyPost_ret (v := .tuple #[.agg #[.slice none 0 0], .int .i64 40]) (by simp [results, Tryd.results8, go_sem, hc0]) rfl ⟨_, rfl, nm_zero _, HF0.out⟩
    · have hng : NG = false := by rw [HNG.out]; simpa using hneg
      subst hng
      have hneg' : ¬ ∃ z ∈ zs, z < 0 := fun h => hneg ((minOf_neg zs).2 h)
      have hcon := contains_any _ _ _ (Rw.fresh HR.out HA.out.fr)
      by_cases h0 : (0 : Int) ∈ zs
      · have hc1 : zs.contains 0 = true := by simpa using h0
        rw [hc1] at hcon
        have hfe : FE = 0 := by rw [HFE.out]; unfold pE; rw [if_neg hneg', if_pos h0]
        have hfv : FV = 0 := by rw [HFV.out]; unfold pV; rw [if_pos (.inr h0)]
        subst hfe hfv
        have hc0 := HA.out.c
        have HF0 := show Hid _ from HA.out.fr
        clear hc hzI hneg hneg' HA h0 hc1
        go_wp2_with fail
        refine hcon.mono ?_
        rintro e w1 ⟨rfl, rfl⟩
        go_wp2
        exact bodyPost_ret (v := .tuple #[.agg #[.slice none 0 0], .int .i64 0]) (by simp [results, Tryd.results8, go_sem, hc0]) rfl ⟨_, rfl, nm_zero _, HF0.out⟩
      · have hc1 : zs.contains 0 = false := by simpa using h0
        rw [hc1] at hcon
        have hpos : ∀ z ∈ zs, 0 < z := fun z hz => by
          have h1 : ¬ z < 0 := fun c => hneg' ⟨z, hz, c⟩
          have h2 : z ≠ 0 := fun c => h0 (c ▸ hz)
          omega
        have hfe : Hid (FE = fitE (prodN zs)) := by show _ = _; rw [HFE.out]; unfold pE; rw [if_neg hneg', if_neg h0]
        have hfv : Hid (FV = fitN (prodN zs)) := by show _ = _; rw [HFV.out]; unfold pV; rw [if_neg (fun c => c.elim hneg' h0)]
        have HP := show Hid _ from hpos
        have hw1 := fun W => word_any 1 W (by omega)
        clear HFE HFV hneg hneg' h0 hc1 HNG hzI hpos
        go_wp2_with fail
        refine hcon.mono ?_
        rintro e w1 ⟨rfl, rfl⟩
        clear hcon
        go_wp2_with fail
        refine (hw1 _).mono ?_
        rintro e w2 ⟨v2, rfl, hN2, hF2⟩
        obtain ⟨a2, k2, c2, rfl⟩ := hN2.shape
        have HA2 := show Hid _ from Ax.next HA.out hF2
        have HN2 := show Hid _ from hN2
        clear HA hN2 hF2 hw1
        go_wp2_with fail
        go_loopw [4, 5, 25] (fun pv gv iv wr => ∃ (j P g : Nat), j ≤ zs.length ∧ iv = .int .i64 (j : Int) ∧ gv = .int .u64 (g : Int) ∧ g < 18446744073709551616 ∧ 0 < g ∧ Hid (Nm wr pv P) ∧ bl P ≤ 65536 ∧ Hid (P * g = prodN (zs.take j)) ∧ Hid (Ax w (.slice none 0 0) wr)) (fun _ _ iv _ => zs.length - (intOf iv).toNat)
        case atStart => exact ⟨0, 1, 1, by omega, rfl, rfl, by omega, by omega, HN2, by decide, by simp [Hid, prodN], HA2⟩
        case round =>
          clear HA2 HN2
          obtain ⟨j, P, g, hj, rfl, rfl, hg, hg0, HN, hbP, HPG, HA⟩ := hrel
          obtain ⟨pa, pn, pc, rfl⟩ := Nm.shape HN.out
          by_cases hlt : j < zs.length
          · obtain ⟨b, off, rfl, hb, hcell⟩ := hc (fun e => by rw [e] at hlt; simp at hlt)
            have hcu : wr.cell? ⟨b, off + j, none⟩ = some (.int .i64 (zs.getD j 0)) := (HA.out.fr.cell (p := ⟨b, off + j, none⟩) hb (fun e => e)).trans (hcell j hlt)
            have hzI := hI j
            have hz0 : 0 < zs.getD j 0 := HP.out _ (by rw [List.getD_eq_getElem?_getD, List.getElem?_eq_getElem hlt]; exact List.getElem_mem hlt)
            obtain ⟨n, hn'⟩ : ∃ n : Nat, zs.getD j 0 = (n : Int) := ⟨(zs.getD j 0).toNat, by omega⟩
            have hsucc := prodN_succ zs j hlt
            rw [hn', Int.toNat_natCast] at hsucc
            rw [hn'] at hcu hz0
            have hnl : n < 9223372036854775808 := by have := hzI.2; omega
            have HSC : Hid (P * g * n = prodN (zs.take (j + 1))) := by show _ = _; rw [hsucc, HPG.out]
            have hmul := fun W => Tryd.bits_Mul64 g n hg (by omega) W
            have hj0 : (0 : Int) ≤ (j : Int) := by omega
            have hj1 : (j : Int) < (zs.length : Int) := by omega
            by_cases hfit : g * n < 18446744073709551616
            · rw [Nat.div_eq_of_lt hfit, Nat.mod_eq_of_lt hfit] at hmul
              rw [show ((0 : Nat) : Int) = 0 from rfl] at hmul
              have hgn0 : 0 < g * n := Nat.mul_pos hg0 (by omega)
              have HPG' : Hid (P * (g * n) = prodN (zs.take (j + 1))) := by show _ = _; rw [← Nat.mul_assoc]; exact HSC
              obtain ⟨G, hG⟩ : ∃ G, G = g * n := ⟨_, rfl⟩
              rw [← hG] at hmul hgn0 HPG' hfit
              clear hG hsucc hcell hc hn' HSC HPG
              go_wp2_with fail
              refine (hmul _).mono ?_
              rintro e w3 ⟨rfl, rfl⟩
              go_wp2
              go_roundw
              case rel => exact ⟨j + 1, P, G, by omega, by go_num, rfl, hfit, hgn0, HN, hbP, HPG', HA⟩
              case measure => simp [intOf]; omega
            · have hhi : g * n / 18446744073709551616 ≠ 0 := by
                have := Nat.div_pos (show 18446744073709551616 ≤ g * n by omega) (by omega)
                omega
              have htw := timesWord_any _ P g wr HN.out hg (by omega)
              have HLE : Hid (P * g ≤ prodN zs) := by show _ ≤ _; rw [HPG.out]; exact prodN_le zs j HP.out
              generalize g * n / 18446744073709551616 = HI at *
              generalize g * n % 18446744073709551616 = LO at *
              have hHI : ((HI : Int) == 0) = false := by simp; exact hhi
              clear hsucc hcell hc hn' hfit HPG
              go_wp2_with fail
              refine (hmul _).mono ?_
              rintro e w3 ⟨rfl, rfl⟩
              go_wp2_with fail
              refine htw.mono ?_
              rintro e w4 ⟨v4, rfl, hN4, hF4⟩
              obtain ⟨a4, k4, c4, rfl⟩ := hN4.shape
              have HA4 := show Hid _ from Ax.next HA.out hF4
              have HN4 := show Hid _ from hN4
              obtain ⟨L4, g1, g2, g3, _⟩ := hN4
              have hbi := bits_any _ _ L4 w4 g1 g2
              rw [g3] at hbi
              clear g1 g2 g3 hF4 htw hmul HA HN
              by_cases hbig : 65536 < bl (P * g)
              · have hbz : 65536 < bl (prodN zs) := Nat.lt_of_lt_of_le hbig (bl_mono HLE.out)
                obtain ⟨q1, q2⟩ := fit_out hbz
                have hfe' : FE = 41 := by rw [hfe.out, q2]
                have hfv' : FV = 0 := by rw [hfv.out, q1]
                subst hfe' hfv'
                generalize bl (P * g) = K at *
                have hK : decide ((65536 : Int) < (K : Int)) = true := by rw [decide_eq_true_iff]; omega
                have hc4 := HA4.out.c
                have hf4 := HA4.out.f
                obtain ⟨r0, r1, r2⟩ := HA4.out.store (.slice none 0 0) (nm_zero _)
                have R2 := show Hid _ from r2
                clear r1 r2 HA4 hfe hfv q1 q2
                go_wp2_with fail
                refine hbi.mono ?_
                rintro e w5 ⟨rfl, rfl⟩
                go_wp2
                exact bodyPost_ret (v := .tuple #[.agg #[.slice none 0 0], .int .i64 41]) (by simp [results, Tryd.results8, go_sem, r0]) rfl ⟨_, rfl, nm_zero _, R2.out⟩
              · have hbp : bl (P * g) ≤ 65536 := by omega
                have HPG' : Hid (P * g * n = prodN (zs.take (j + 1))) := HSC
                obtain ⟨PG, hPG⟩ : ∃ PG, PG = P * g := ⟨_, rfl⟩
                rw [← hPG] at hbi hbp HPG' HN4
                clear hPG HSC HLE hbig
                obtain ⟨K, hKK⟩ : ∃ K, K = bl PG := ⟨_, rfl⟩
                rw [← hKK] at hbi
                have hKl : K ≤ 65536 := by omega
                have hK : decide ((65536 : Int) < (K : Int)) = false := by rw [decide_eq_false_iff_not]; omega
                clear hKK
                go_wp2_with fail
                refine hbi.mono ?_
                rintro e w5 ⟨rfl, rfl⟩
                go_wp2
                go_roundw
                case rel => exact ⟨j + 1, PG, n, by omega, by go_num, by go_num, by omega, by omega, HN4, hbp, HPG', HA4⟩
                case measure => simp [intOf]; omega
          · obtain rfl : j = zs.length := by omega
            have hpg := HPG.out
            rw [List.take_of_length_le (Nat.le_refl _)] at hpg
            have htw := timesWord_any _ P g wr HN.out hg (by omega)
            rw [hpg] at htw
            clear hpg HPG hc HN
            go_wp2_with fail
            refine htw.mono ?_
            rintro e w4 ⟨v4, rfl, hN4, hF4⟩
            obtain ⟨a4, k4, c4, rfl⟩ := hN4.shape
            have HA4 := show Hid _ from Ax.next HA.out hF4
            have hnum := number_any _ _ _ hN4
            rw [← hfe.out, ← hfv.out] at hnum
            clear htw hN4 hF4 HA hfe hfv
            go_wp2_with fail
            refine hnum.mono ?_
            rintro e w5 ⟨v5, rfl, hN5, hF5⟩
            obtain ⟨a5, k5, c5, rfl⟩ := hN5.shape
            have hA5 := Ax.next HA4.out hF5
            have hc5 := hA5.c
            have hf5 := hA5.f
            obtain ⟨r0, r1, r2⟩ := hA5.store _ hN5
            have R1 := show Hid _ from r1
            have R2 := show Hid _ from r2
            clear r1 r2 hA5 HA4 hnum hN5 hF5
            go_wp2
            exact bodyPost_ret (v := .tuple #[.agg #[.slice a5 k5 c5], .int .i64 FE]) (by simp [results, Tryd.results8, go_sem, r0]) rfl ⟨_, rfl, R1.out, R2.out⟩
end Go.Proofs.YtgdkbiidjaplhaaDoor
