/-
  Layer, the document's.
-/
import Derived.Test.YtibbifklnimlcabNok
import Derived.Test.YtibbifklnimlcabNor
namespace Go.Proofs.Ytibbifklnimlcab
open Go.RowKit Go.Lib Go.Maps

set_option maxHeartbeats 8000000 in
set_option maxRecDepth 100000 in
theorem refLayer_any (p q r : Nat → Prop) (lv gv bv : Value) (zs gs bs : List Int) (w : World) (hl : Rk .i64 p w lv zs) (hg : Rk .i8 q w gv gs) (hb : Rk .i8 r w bv bs) :
    Calls Try.prog 8 #[lv, gv, bv] w fun e w' => Gives .i8 50 (laL zs gs bs) (laE zs gs bs) w e w' := by
  have HR : Hid (Unit → _) := fun (_ : Unit) => refCenter_any p lv zs w hl
  have HG : Hid (∀ (W : World) (E : Int), Fresh w W → Gives .i8 50 [] E w (.returned (.tuple #[.slice (some ⟨W.heap.size, 0, none⟩) 0 0, zV E])) (W.alloc (.cells #[] 50))) := fun W E hF => Gives_empty .i8 50 E hF
  have HCl : Hid ((coL zs).length * kb .i64 ≤ 140737488351232 ∧ ∀ z ∈ coL zs, Fit .i64 z) := ⟨by have := coL_len zs; simp only [kb]; omega, coL_fit zs⟩
  obtain ⟨ao, ac, hva, _⟩ := hl.shape
  obtain ⟨bo, bc, hvb, _⟩ := hg.shape
  obtain ⟨co, cc, hvc, _⟩ := hb.shape
  subst hva
  subst hvb
  subst hvc
  by_cases q1 : zs.length = gs.length
  · by_cases q2 : zs.length = bs.length
    · by_cases h0 : nE zs = 0
      · obtain ⟨l1, l2, hrc⟩ := nE_zero h0
        have hco : coL zs = ceL zs := if_pos h0
        rw [hco] at HCl HR
        have eE : laE zs gs bs = reE (ceL zs) := laE_c (by omega) h0
        have hnc := nE_ce h0
        by_cases h9 : reE (ceL zs) = 0
        · have HE : Hid (laL zs gs bs = mkL zs.length (laF zs gs bs) ∧ laE zs gs bs = 0) := ⟨laL_ok (by rw [eE]; exact h9), by rw [eE]; exact h9⟩
          have hcr := reE_zero h9
          have hcl1 : 1 ≤ (ceL zs).length := by rw [ceL_len]; exact l1
          obtain ⟨r1, r2⟩ := rt_bound hcl1 hcr
          have hn9 : nE (ceL zs) = 0 := by rw [hnc]; exact h9
          have HX : Hid (∀ j, j < zs.length → (∀ W, Calls Try.prog 22 #[zV (gt (ceF zs j) (rt (ceL zs)) * gs.getD j 0), zV 6] W fun e w' => e = .returned (.tuple #[zV (gN (ceF zs j) (rt (ceL zs)) (gs.getD j 0)), zV 0]) ∧ Drew W w') ∧ Rc (ceF zs j) ∧ C8 (gs.getD j 0) ∧ C8 (bs.getD j 0) ∧ -2199023255552 ≤ gN (ceF zs j) (rt (ceL zs)) (gs.getD j 0) ∧ gN (ceF zs j) (rt (ceL zs)) (gs.getD j 0) ≤ 2199023255552) := fun j hj => by
            have hc : Rc (ceF zs j) := by rw [← ceL_get hj]; exact getD_all (by rw [ceL_len]; exact hj) hcr
            obtain ⟨a, b⟩ := gm_bound hc r1 (hg.get j)
            exact ⟨fun W => refRound_ok _ 6 W ⟨by omega, by omega⟩ (by omega), hc, hg.get j, hb.get j, (gN_bound hc r1 (hg.get j)).1, (gN_bound hc r1 (hg.get j)).2⟩
          have HNw : Hid (∀ j W, Calls Try.prog 23 #[zV (gN (ceF zs j) (rt (ceL zs)) (gs.getD j 0) + bs.getD j 0)] W fun e w' => e = .returned (.int .i8 (laF zs gs bs j)) ∧ Drew W w') := fun j W => refNarrow_any _ W
          have HRt : Hid (∀ W v, Rk .i64 (fun b => w.heap.size ≤ b ∧ b < W.heap.size) W v (ceL zs) → (Calls Try.prog 16 #[v] W fun e w' => e = .returned (.tuple #[zV (rt (ceL zs) : Nat), zV 0]) ∧ Drew W w')) := fun W v hv => by
            have := refRoot_any _ v (ceL zs) W hv
            rwa [hn9, show rV (ceL zs) = (rt (ceL zs) : Int) from if_pos hn9] at this
          have HCe : Hid ((ceL zs).length = zs.length ∧ ∀ j, j < zs.length → (ceL zs).getD j 0 = ceF zs j) := ⟨ceL_len zs, fun j hj => ceL_get hj⟩
          rw [HE.out.1, HE.out.2]
          rw [h0] at HR
          rw [← q1] at hg ⊢
          rw [← q2] at hb ⊢
          have HC2 : Hid _ := hg.stay
          have HC3 : Hid _ := hb.stay
          clear h0 hl hg hb eE h9 HE hcr hcl1 hn9 q1 q2 hrc HG hco hnc
          generalize zs.length = n at *
          generalize rt (ceL zs) = r at *
          generalize coM zs = M at *
          go_enter Try.func8, Try.ntmps8
          go_wp2_with fail
          refine (HR.out ()).mono ?_
          rintro e w1 hG
          obtain ⟨v1, rfl, hR1, hF1⟩ := hG.row HCl.out.1 HCl.out.2
          have K1 : Hid (Unit → _) := fun (_ : Unit) => HRt.out w1 v1 hR1
          have HF1 : Hid (Fresh w w1) := hF1
          have hR1' := hR1
          obtain ⟨eo, ec, hve, _⟩ := hR1'.shape
          rw [HCe.out.1] at hve
          subst hve
          have HC1 : Hid _ := hR1.stay
          clear hG hR1 hR1' hF1 HRt HR HCl
          go_wp2_with fail
          refine (K1.out ()).mono ?_
          rintro e w2 ⟨rfl, hd⟩
          have hF12 : Fresh w1 w2 := hd.fresh
          have hF2 : Fresh w w2 := HF1.out.trans hF12 (fun _ _ e => e)
          have HF2 : Hid (Fresh w w2) := hF2
          have HC1' : Hid (0 < n → ∃ b off, eo = some ⟨b, off, none⟩ ∧ ∀ W, Fresh w2 W → ∀ i, i < n → W.cell? ⟨b, off + i, none⟩ = some (.int .i64 (ceF zs i))) := fun hp => let ⟨b, off, e, h⟩ := HC1.out hp; ⟨b, off, e, fun W hF i hi => by rw [h W (hF12.trans hF (fun _ _ e => e)) i hi, HCe.out.2 i hi]⟩
          have hS : Grw .i8 50 w2 (laF zs gs bs) 0 w2.heap.size 0 (w2.alloc (.cells #[] 50)) := Grw.start _ (Kept.refl _ _)
          generalize hW0 : w2.alloc (.cells #[] 50) = W0 at *
          have HS : Hid _ := hS
          clear hd K1 HC1 hF12 hS HF1 HCe hF2
          go_wp2
          clear hW0
          go_loopw [12, 13] (fun ov iv wr => ∃ j g c : Nat, j ≤ n ∧ iv = zV j ∧ ov = .slice (some ⟨g, 0, none⟩) j c ∧ Hid (Grw .i8 50 w2 (laF zs gs bs) j g c wr)) (fun _ iv _ => n - (RowKit.intOf iv).toNat)
          case atStart => exact ⟨0, _, _, Nat.zero_le _, rfl, rfl, HS.out⟩
          case round =>
            obtain ⟨j, og, oc, hj, rfl, rfl, HA⟩ := hrel
            clear HS
            by_cases hlt : j < n
            · obtain ⟨b, off, rfl, hcell⟩ := HC1'.out (by omega)
              obtain ⟨b2, off2, rfl, hcell2⟩ := HC2.out (by omega)
              obtain ⟨b3, off3, rfl, hcell3⟩ := HC3.out (by omega)
              have g1 := hcell wr HA.out.fresh j hlt
              have g2 := hcell2 wr (HF2.out.trans HA.out.fresh (fun _ _ e => e)) j hlt
              have HG3 : Hid (∀ d, (wr.drewN d).cell? ⟨b3, off3 + j, none⟩ = some (.int .i8 (bs.getD j 0))) := fun d => hcell3 wr (HF2.out.trans HA.out.fresh (fun _ _ e => e)) j hlt
              have hlt' : (j : Int) < (n : Int) := by omega
              obtain ⟨hcall, hRc, hC8, ⟨c0, c1⟩, y0, y1⟩ := HX.out j hlt
              have HCall : Hid (∀ W, _) := hcall
              have HCall2 : Hid (∀ W, _) := fun W => HNw.out j W
              obtain ⟨t0, t1⟩ := gt_bound hRc r1
              obtain ⟨m0, m1⟩ := gm_bound hRc r1 hC8
              have hpos : ¬ ceF zs j < 0 → (64 * ceF zs j).tdiv (r : Int) = gt (ceF zs j) r := fun _ => rfl
              have hneg : ∃ T, (64 * (- ceF zs j)).tdiv (r : Int) = T ∧ -T = gt (ceF zs j) r := ⟨_, rfl, gt_of_neg r⟩
              obtain ⟨x0, x1⟩ := hRc
              obtain ⟨e0, e1⟩ := hC8
              clear hcell hcell2 hcell3 HX HNw HC1' HC2 HC3 hcall
              generalize ceF zs j = x at *
              generalize gs.getD j 0 = g at *
              generalize bs.getD j 0 = c at *
              generalize gN x r g = y at *
              generalize gt x r = t at *
              obtain ⟨P, hP⟩ : ∃ P, t * g = P := ⟨_, rfl⟩
              rw [hP] at m0 m1 HCall
              have HEnd : Hid (∀ X : World, Grw .i8 50 w2 (laF zs gs bs) j og oc X → _) := fun X hX => hX.push ty8 (by simp only [kb]; omega)
              by_cases hx : x < 0
              · obtain ⟨T, hT, hT2⟩ := hneg
                subst hT2
                clear hpos
                go_wp2_with fail
                refine (HCall.out _).mono ?_
                rintro e w3 ⟨rfl, d3, hw3⟩
                have HA3 : Hid (Grw .i8 50 w2 (laF zs gs bs) j og oc w3) := by show Grw _ _ _ _ _ _ _ _; rw [hw3]; exact HA.out.drew d3
                have g3 : w3.cell? ⟨b3, off3 + j, none⟩ = some (.int .i8 c) := by rw [hw3]; exact HG3.out d3
                clear HCall HA hw3 g1 g2 HG3
                go_wp2_with fail
                refine (HCall2.out _).mono ?_
                rintro e w4 ⟨rfl, d4, hw4⟩
                obtain ⟨g', c', X', hr1, hG⟩ := HEnd.out w4 (by rw [hw4]; exact HA3.out.drew d4)
                have HG : Hid _ := hG
                clear HA3 HCall2 hw4 hG HEnd g3
                generalize laF zs gs bs j = z at *
                go_wp2_with (at_builtin; refine Lib.wpList_append_run _ rfl _ _ _ _ rfl _ _ rfl rfl _ _ hr1 ?_)
                go_roundw
                case rel => exact ⟨j + 1, g', c', hlt, by go_num, rfl, HG.out⟩
                case measure => simp [RowKit.intOf]; omega
              · have hT := hpos hx
                clear hpos hneg
                go_wp2_with fail
                refine (HCall.out _).mono ?_
                rintro e w3 ⟨rfl, d3, hw3⟩
                have HA3 : Hid (Grw .i8 50 w2 (laF zs gs bs) j og oc w3) := by show Grw _ _ _ _ _ _ _ _; rw [hw3]; exact HA.out.drew d3
                have g3 : w3.cell? ⟨b3, off3 + j, none⟩ = some (.int .i8 c) := by rw [hw3]; exact HG3.out d3
                clear HCall HA hw3 g1 g2 HG3
                go_wp2_with fail
                refine (HCall2.out _).mono ?_
                rintro e w4 ⟨rfl, d4, hw4⟩
                obtain ⟨g', c', X', hr1, hG⟩ := HEnd.out w4 (by rw [hw4]; exact HA3.out.drew d4)
                have HG : Hid _ := hG
                clear HA3 HCall2 hw4 hG HEnd g3
                generalize laF zs gs bs j = z at *
                go_wp2_with (at_builtin; refine Lib.wpList_append_run _ rfl _ _ _ _ rfl _ _ rfl rfl _ _ hr1 ?_)
                go_roundw
                case rel => exact ⟨j + 1, g', c', hlt, by go_num, rfl, HG.out⟩
                case measure => simp [RowKit.intOf]; omega
            · obtain rfl : j = n := by omega
              have HXX : Hid (Gives .i8 50 (mkL j (laF zs gs bs)) 0 w (.returned (.tuple #[.slice (some ⟨og, 0, none⟩) j oc, zV 0])) wr) := (HA.out.done 0).from HF2.out
              clear HA HC1' HC2 HC3 HX HNw
              go_wp2
              go_ret2
              exact HXX.out
        · have HE : Hid (laL zs gs bs = [] ∧ laE zs gs bs = reE (ceL zs)) := ⟨laL_bad (by rw [eE]; exact h9), eE⟩
          have h9' : (reE (ceL zs) == 0) = false := beq_eq_false_iff_ne.2 h9
          have HRt : Hid (∀ W v, Rk .i64 (fun b => w.heap.size ≤ b ∧ b < W.heap.size) W v (ceL zs) → (Calls Try.prog 16 #[v] W fun e w' => e = .returned (.tuple #[zV (rV (ceL zs)), zV (reE (ceL zs))]) ∧ Drew W w')) := fun W v hv => by
            have := refRoot_any _ v (ceL zs) W hv
            rwa [hnc] at this
          rw [HE.out.1, HE.out.2]
          rw [h0] at HR
          rw [← q1, ← q2]
          clear h0 hl hg hb eE h9 HE q1 q2 hrc hco hnc
          generalize reE (ceL zs) = E at *
          generalize rV (ceL zs) = V at *
          generalize coM zs = M at *
          go_enter Try.func8, Try.ntmps8
          go_wp2_with fail
          refine (HR.out ()).mono ?_
          rintro e w1 hG
          obtain ⟨v1, rfl, hR1, hF1⟩ := hG.row HCl.out.1 HCl.out.2
          have K1 : Hid (Unit → _) := fun (_ : Unit) => HRt.out w1 v1 hR1
          have HF1 : Hid (Fresh w w1) := hF1
          obtain ⟨eo, ec, rfl, _⟩ := hR1.shape
          clear hG hR1 hF1 HRt HR HCl
          go_wp2_with fail
          refine (K1.out ()).mono ?_
          rintro e w2 ⟨rfl, hd⟩
          have HX : Hid _ := HG.out w2 E (HF1.out.trans hd.fresh (fun _ _ e => e))
          clear hd K1 HG HF1
          go_wp2
          go_ret2
          exact HX.out
      · have eE : laE zs gs bs = nE zs := laE_n (by omega) h0
        have HE : Hid (laL zs gs bs = [] ∧ laE zs gs bs = nE zs) := ⟨laL_bad (by rw [eE]; exact h0), eE⟩
        have h0' : (nE zs == 0) = false := beq_eq_false_iff_ne.2 h0
        rw [HE.out.1, HE.out.2]
        rw [← q1, ← q2]
        clear h0 hl hg hb eE HE q1 q2
        generalize nE zs = E at *
        generalize coM zs = M at *
        go_enter Try.func8, Try.ntmps8
        go_wp2_with fail
        refine (HR.out ()).mono ?_
        rintro e w1 hG
        obtain ⟨v1, rfl, hR1, hF1⟩ := hG.row HCl.out.1 HCl.out.2
        obtain ⟨eo, ec, rfl, _⟩ := hR1.shape
        have HX : Hid _ := HG.out w1 E hF1
        clear hG hR1 hF1 HR HCl HG
        go_wp2
        go_ret2
        exact HX.out
    · have eE : laE zs gs bs = 1 := laE_len (by omega)
      rw [laL_bad (by rw [eE]; omega), eE]
      have q2' : ¬ (zs.length : Int) = (bs.length : Int) := by omega
      have HX : Hid _ := HG.out w 1 (Kept.refl _ _)
      rw [← q1]
      clear hl hg hb eE HG HR q1 HCl
      go_enter Try.func8, Try.ntmps8
      go_wp2
      go_ret2
      exact HX.out
  · have eE : laE zs gs bs = 1 := laE_len (by omega)
    rw [laL_bad (by rw [eE]; omega), eE]
    have q1' : ¬ (zs.length : Int) = (gs.length : Int) := by omega
    have HX : Hid _ := HG.out w 1 (Kept.refl _ _)
    clear hl hg hb eE HG HR HCl
    go_enter Try.func8, Try.ntmps8
    go_wp2
    go_ret2
    exact HX.out
end Go.Proofs.Ytibbifklnimlcab
