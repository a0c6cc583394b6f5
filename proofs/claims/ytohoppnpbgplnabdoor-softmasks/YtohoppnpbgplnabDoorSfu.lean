/-
  Masked, the document's.
-/
import Derived.Test.YtohoppnpbgplnabDoorSfo
import Derived.Test.YtohoppnpbgplnabDoorSfb
namespace Go.Proofs.YtohoppnpbgplnabDoor
open Go.RowKit Go.Lib Go.Maps

set_option maxHeartbeats 4000000 in
set_option maxRecDepth 100000 in
theorem refMasked_any (p q : Nat → Prop) (v mv : Value) (zs : List Int) (mk : List Bool) (w : World) (h : Rk .i64 p w v zs) (hM : Rb q w mv mk) :
    Calls Tryd.prog 14 #[v, mv] w fun e w' => Gives .i64 2 (maL zs mk) (maE zs mk) w e w' := by
  have HEm : Hid (∀ E W, Fresh w W → Gives .i64 2 [] E w (.returned (.tuple #[.slice (some ⟨W.heap.size, 0, none⟩) 0 0, zV E])) (W.alloc (.cells #[] 2))) := fun E W hF => Gives_empty .i64 2 E hF
  have hmany := h.many
  have hmany2 := hM.many
  by_cases hk : 1 ≤ zs.length ∧ zs.length ≤ 512
  · obtain ⟨k1, k2⟩ := hk
    have k1' : (1 : Int) ≤ (zs.length : Int) := by omega
    have k2' : (zs.length : Int) ≤ 512 := by omega
    by_cases c0 : mk.length = zs.length
    · have HNo : Hid (ct mk zs.length = 0 → maE zs mk = 111 ∧ maL zs mk = []) := fun hc => ma_masked k1 k2 c0 hc
      have HYes : Hid (ct mk zs.length ≠ 0 → maE zs mk = 0 ∧ maL zs mk = mkL zs.length (maF zs mk zs.length)) := fun hc => ma_ok k1 k2 c0 hc
      have HWt : Hid (ct mk zs.length ≠ 0 → ∀ W g c, W.ownsRow w.heap.size 2 1 (.slice (some ⟨g, 0, none⟩) (ct mk zs.length) c) (ct mk zs.length) ((selL zs mk zs.length).map zV) → Calls Tryd.prog 6 #[.slice (some ⟨g, 0, none⟩) (ct mk zs.length) c] W fun e w' => ∃ v, e = .returned (.tuple #[v, zV 0]) ∧ Rk .i64 (fun b => W.heap.size ≤ b ∧ b < w'.heap.size) w' v (wL (selL zs mk zs.length)) ∧ Fresh W w') := fun hc W g c ho => by
        have hle := ct_le mk zs.length
        have hlen := selL_len zs mk zs.length
        have hR := rk_of_own (k := .i64) (zs := selL zs mk zs.length) ho (by rw [hlen]; simp [kb]; omega) (selL_fit mk zs.length (fun i => h.get i))
        have := refWeights_any _ _ _ W hR
        rw [woL_ok (by omega) (by omega), wE_ok (by omega) (by omega)] at this
        exact this.mono fun e w' hG => hG.row (by rw [wL_len, hlen]; simp [kb]; omega) (fun z hz => by have := wL_mem hz; exact ⟨by omega, by omega⟩)
      obtain ⟨ao, ac, rfl, _⟩ := h.shape
      obtain ⟨bo, bc, rfl⟩ := hM.shape
      have HC1 : Hid _ := h.stay
      have HC2 : Hid _ := hM.stay
      rw [c0] at HC2 hmany2 ⊢
      have hS : Hid ((w.alloc (.cells #[] 2)).ownsRow w.heap.size 2 1 (.slice (some ⟨w.heap.size, 0, none⟩) 0 0) 0 ((selL zs mk 0).map zV) ∧ Fresh w (w.alloc (.cells #[] 2))) := ⟨own_empty w _ (Nat.le_refl _) _, (Kept.refl _ w).alloc _⟩
      have HSLn : Hid ((selL zs mk zs.length).length = ct mk zs.length) := selL_len _ _ _
      clear h hM c0
      generalize zs.length = n at *
      generalize maE zs mk = E at *
      generalize maL zs mk = L at *
      generalize hW0 : w.alloc (.cells #[] 2) = W0 at *
      go_enter Tryd.func14, Tryd.ntmps14
      go_wp2
      clear hW0
      go_loopw [6, 7] (fun ov iv wr => ∃ j g c : Nat, j ≤ n ∧ iv = zV j ∧ ov = .slice (some ⟨g, 0, none⟩) (ct mk j) c ∧ Hid (wr.ownsRow w.heap.size 2 1 (.slice (some ⟨g, 0, none⟩) (ct mk j) c) (ct mk j) ((selL zs mk j).map zV) ∧ Fresh w wr)) (fun _ iv _ => n - (RowKit.intOf iv).toNat)
      case atStart => exact ⟨0, _, _, Nat.zero_le _, rfl, rfl, hS.out⟩
      case round =>
        obtain ⟨j, og, oc, hj, rfl, rfl, HA⟩ := hrel
        clear hS
        by_cases hlt : j < n
        · obtain ⟨b1, off1, rfl, hcell1⟩ := HC1.out (by omega)
          obtain ⟨b2, off2, rfl, hcell2⟩ := HC2.out (by omega)
          have g1 := hcell1 wr HA.out.2 j hlt
          have g2 := hcell2 wr HA.out.2 j hlt
          have hlt' : (j : Int) < (n : Int) := by omega
          have hle := ct_le mk j
          clear hcell1 hcell2 HC1 HC2 HNo HYes HWt HEm HSLn
          cases hm : mk.getD j false with
          | true =>
            rw [hm] at g2
            obtain ⟨g', c', X', hr1, ho, _, hk⟩ := push ty64 wr w.heap.size og oc (ct mk j) (selL zs mk j) (zs.getD j 0) HA.out.1 (by simp [kb]; omega) HA.out.2.size
            have hgo := (own_block HA.out.1).1
            rw [← selL_yes hm] at ho
            have HN : Hid ((X'.ownsRow w.heap.size 2 1 (.slice (some ⟨g', 0, none⟩) (ct mk (j + 1)) c') (ct mk (j + 1)) ((selL zs mk (j + 1)).map zV) ∧ Fresh w X') ∧ ct mk (j + 1) = ct mk j + 1) := by
              refine ⟨⟨?_, HA.out.2.trans hk (fun i hi e => by omega)⟩, ct_yes hm⟩
              rw [ct_yes hm]
              exact ho
            clear HA ho hk hm hgo
            generalize ct mk j = c at *
            generalize zs.getD j 0 = x at *
            go_wp2_with (at_builtin; refine Lib.wpList_append_run _ rfl _ _ _ _ rfl _ _ rfl rfl _ _ hr1 ?_)
            go_roundw
            case rel => exact ⟨j + 1, g', c', hlt, by go_num, by rw [HN.out.2], HN.out.1⟩
            case measure => simp [RowKit.intOf]; omega
          | false =>
            rw [hm] at g2
            have HN : Hid ((wr.ownsRow w.heap.size 2 1 (.slice (some ⟨og, 0, none⟩) (ct mk (j + 1)) oc) (ct mk (j + 1)) ((selL zs mk (j + 1)).map zV) ∧ Fresh w wr) ∧ ct mk (j + 1) = ct mk j) := by
              rw [show Hid _ = _ from rfl, ct_no hm, selL_no hm]
              exact ⟨HA.out, rfl⟩
            clear HA hm
            generalize ct mk j = c at *
            go_wp2
            go_roundw
            case rel => exact ⟨j + 1, og, oc, hlt, by go_num, by rw [HN.out.2], HN.out.1⟩
            case measure => simp [RowKit.intOf]; omega
        · obtain rfl : j = n := by omega
          by_cases hc0 : ct mk j = 0
          · obtain ⟨e1, e2⟩ := HNo.out hc0
            subst e1
            subst e2
            have HX : Hid _ := HEm.out 111 wr HA.out.2
            rw [hc0]
            clear HNo HYes HWt HEm HA HC1 HC2 HSLn hc0
            go_wp2
            go_ret2
            exact HX.out
          · obtain ⟨e1, e2⟩ := HYes.out hc0
            subst e1
            subst e2
            have HCall : Hid (Unit → _) := fun (_ : Unit) => HWt.out hc0 wr og oc HA.out.1
            have HFw : Hid (Fresh w wr) := HA.out.2
            have hc0' : ¬ ((ct mk j : Nat) : Int) = 0 := by omega
            have hcl := ct_le mk j
            have HwL : Hid (∀ i, i < ct mk j → (wL (selL zs mk j)).getD i 0 = wF (selL zs mk j) i) := fun i hi => by
              unfold wL
              exact mkL_get (by rw [HSLn.out]; exact hi)
            have HwN : Hid ((wL (selL zs mk j)).length = ct mk j) := by
              show _ = _
              rw [wL_len, HSLn.out]
            clear HNo HYes HWt HEm HA hc0
            generalize hc : ct mk j = c at *
            have Hc : Hid (ct mk j = c) := hc
            clear hc
            go_wp2_with fail
            refine (HCall.out ()).mono ?_
            rintro e w3 ⟨v3, rfl, hR3, hF3⟩
            obtain ⟨wo, wc, rfl, _⟩ := hR3.shape
            have HW3 : Hid _ := hR3.stay
            rw [HwN.out] at HW3 ⊢
            have HF3 : Hid (Fresh w w3) := HFw.out.trans hF3 (fun _ _ e => e)
            have hS : Hid (Grw .i64 2 w3 (maF zs mk j) 0 w3.heap.size 0 (w3.alloc (.cells #[] 2))) := Grw.start _ (Kept.refl _ w3)
            clear hR3 hF3 HCall HFw
            generalize hW3 : w3.alloc (.cells #[] 2) = W3 at *
            go_wp2
            clear hW3
            go_loopw [10, 11, 12] (fun ov kv iv wr => ∃ i g cc : Nat, i ≤ j ∧ iv = zV i ∧ kv = zV (ct mk i : Nat) ∧ ov = .slice (some ⟨g, 0, none⟩) i cc ∧ Hid (Grw .i64 2 w3 (maF zs mk j) i g cc wr)) (fun _ _ iv _ => j - (RowKit.intOf iv).toNat)
            case atStart => exact ⟨0, _, _, Nat.zero_le _, rfl, rfl, rfl, hS.out⟩
            case round =>
              obtain ⟨i, og2, oc2, hi, rfl, rfl, rfl, HA⟩ := hrel
              clear hS
              by_cases hlt : i < j
              · obtain ⟨b2, off2, rfl, hcell2⟩ := HC2.out (by omega)
                have g2 := hcell2 _ (HF3.out.trans HA.out.fresh (fun _ _ e => e)) i hlt
                have hlt' : (i : Int) < (j : Int) := by omega
                have hcli := ct_le mk i
                obtain ⟨g', c', X', hr1, hGr⟩ := HA.out.push ty64 (by simp [kb]; omega)
                have HGr : Hid _ := hGr
                obtain ⟨bw, offw, rfl, hwc⟩ := HW3.out (by omega)
                have HWc : Hid (∀ k, k < c → _) := fun k hk => hwc _ HA.out.fresh k hk
                clear hcell2 HC1 HC2 hGr hwc HW3 HA
                cases hm : mk.getD i false with
                | true =>
                  rw [hm] at g2
                  have hcl2 : ct mk i < c := by rw [← Hc.out]; exact ct_lt mk hlt hm
                  have g3 := HWc.out (ct mk i) hcl2
                  rw [HwL.out _ hcl2] at g3
                  rw [show maF zs mk j i = wF (selL zs mk j) (ct mk i) from if_pos hm] at hr1
                  have HCt : Hid (ct mk (i + 1) = ct mk i + 1) := ct_yes hm
                  have hcl3 : ((ct mk i : Nat) : Int) < (c : Int) := by omega
                  clear hm HWc HwL HwN HSLn
                  generalize wF (selL zs mk j) (ct mk i) = x at *
                  generalize ct mk i = ci at *
                  go_wp2_with (at_builtin; refine Lib.wpList_append_run _ rfl _ _ _ _ rfl _ _ rfl rfl _ _ hr1 ?_)
                  go_roundw
                  case rel => exact ⟨i + 1, g', c', hlt, by go_num, by rw [HCt.out]; go_num, rfl, HGr.out⟩
                  case measure => simp [RowKit.intOf]; omega
                | false =>
                  rw [hm] at g2
                  rw [show maF zs mk j i = 0 from if_neg (by rw [hm]; decide)] at hr1
                  have HCt : Hid (ct mk (i + 1) = ct mk i) := ct_no hm
                  clear hm HWc HwL HwN HSLn
                  generalize ct mk i = ci at *
                  go_wp2_with (at_builtin; refine Lib.wpList_append_run _ rfl _ _ _ _ rfl _ _ rfl rfl _ _ hr1 ?_)
                  go_roundw
                  case rel => exact ⟨i + 1, g', c', hlt, by go_num, by rw [HCt.out], rfl, HGr.out⟩
                  case measure => simp [RowKit.intOf]; omega
              · obtain rfl : i = j := by omega
                have HXX : Hid (Gives .i64 2 (mkL i (maF zs mk i)) 0 w (.returned (.tuple #[.slice (some ⟨og2, 0, none⟩) i oc2, zV 0])) wr) := by
                  obtain ⟨v, h1, h2, h3⟩ := HA.out.done 0
                  exact ⟨v, h1, own_low h2 HF3.out.size, HF3.out.trans h3 (fun _ _ e => e)⟩
                clear HA HC1 HC2 HW3 HwL HSLn
                go_wp2
                go_ret2
                exact HXX.out
    · obtain ⟨e1, e2⟩ := ma_arg (zs := zs) (mk := mk) (.inr c0)
      rw [e1, e2]
      obtain ⟨ao, ac, rfl, _⟩ := h.shape
      obtain ⟨bo, bc, rfl⟩ := hM.shape
      have c0' : ¬ (mk.length : Int) = (zs.length : Int) := by omega
      have HX : Hid _ := HEm.out 1 w (Kept.refl _ _)
      clear h hM e1 e2 c0 HEm
      generalize zs.length = n at *
      generalize mk.length = m at *
      have c0b : ((m : Int) != (n : Int)) = true := by simpa using c0'
      go_enter Tryd.func14, Tryd.ntmps14
      go_wp2
      go_ret2
      exact HX.out
  · obtain ⟨e1, e2⟩ := ma_arg (zs := zs) (mk := mk) (.inl (by omega))
    rw [e1, e2]
    obtain ⟨ao, ac, rfl, _⟩ := h.shape
    obtain ⟨bo, bc, rfl⟩ := hM.shape
    have HX : Hid _ := HEm.out 1 w (Kept.refl _ _)
    clear h hM e1 e2 HEm
    generalize zs.length = n at *
    generalize mk.length = m at *
    by_cases h0 : n = 0
    · subst h0
      go_enter Tryd.func14, Tryd.ntmps14
      go_wp2
      go_ret2
      exact HX.out
    · have k1' : (512 : Int) < (n : Int) := by omega
      clear hk h0
      go_enter Tryd.func14, Tryd.ntmps14
      go_wp2
      go_ret2
      exact HX.out
end Go.Proofs.YtohoppnpbgplnabDoor
