/-
  The document's Row.
-/
import Derived.Test.YtibbifklnimlcaaGrw
import Derived.Test.YtibbifklnimlcaaNoc
namespace Go.Proofs.Ytibbifklnimlcaa
open Go.RowKit Go.Lib Go.Maps

set_option maxHeartbeats 8000000 in
set_option maxRecDepth 100000 in
theorem refRow_any (p q : Nat → Prop) (lv gv : Value) (zs gs : List Int) (w : World) (hl : Rk .i64 p w lv zs) (hg : Rk .i8 q w gv gs) :
    Calls Try.prog 14 #[lv, gv] w fun e w' => Gives .i8 45 (roL zs gs) (roE zs gs) w e w' := by
  have HR : Hid (Unit → _) := fun (_ : Unit) => refRoot_any p lv zs w hl
  have HRk : Hid (Rk .i64 p w lv zs ∧ Rk .i8 q w gv gs) := ⟨hl, hg⟩
  obtain ⟨ao, ac, hva, _⟩ := hl.shape
  obtain ⟨bo, bc, hvb, _⟩ := hg.shape
  clear hl hg
  by_cases q1 : zs.length = gs.length
  · rw [roE_n q1]
    by_cases h0 : nE zs = 0
    · have HE : Hid (roL zs gs = mkL zs.length (noF zs gs)) := roL_ok (by rw [roE_n q1]; exact h0)
      have HV : Hid (rV zs = (rt zs : Int)) := if_pos h0
      obtain ⟨l1, l2, hrc⟩ := nE_zero h0
      obtain ⟨r1, r2⟩ := rt_bound l1 hrc
      have HX : Hid (∀ j, j < zs.length → Rc (zs.getD j 0) ∧ C8 (gs.getD j 0) ∧ ∀ W, Calls Try.prog 24 #[zV (gt (zs.getD j 0) (rt zs) * gs.getD j 0), zV 6] W fun e w' => e = .returned (.tuple #[zV (gN (zs.getD j 0) (rt zs) (gs.getD j 0)), zV 0]) ∧ Drew W w') := fun j hj => ⟨getD_all hj hrc, HRk.out.2.get j, fun W => by
        obtain ⟨a, b⟩ := gm_bound (getD_all hj hrc) r1 (HRk.out.2.get j)
        exact refRound_ok _ 6 W ⟨by omega, by omega⟩ (by omega)⟩
      have HNw : Hid (∀ j W, Calls Try.prog 25 #[zV (gN (zs.getD j 0) (rt zs) (gs.getD j 0))] W fun e w' => e = .returned (.int .i8 (noF zs gs j)) ∧ Drew W w') := fun j W => refNarrow_any _ W
      rw [h0, HV.out] at HR
      rw [h0, HE.out]
      subst hva
      subst hvb
      rw [← q1] at HRk ⊢
      generalize zs.length = n at *
      have HC1 : Hid _ := HRk.out.1.stay
      have HC2 : Hid _ := HRk.out.2.stay
      generalize rt zs = r at *
      clear h0 hrc HE HRk q1 HV
      go_enter Try.func14, Try.ntmps14
      go_wp2_with fail
      refine (HR.out ()).mono ?_
      rintro e w1 ⟨rfl, hd⟩
      have hS : Hid (Grw .i8 45 w (noF zs gs) 0 w1.heap.size 0 (w1.alloc (.cells #[] 45))) := Grw.start _ hd.fresh
      clear hd HR
      generalize hW0 : w1.alloc (.cells #[] 45) = W0 at *
      go_wp2
      clear hW0
      go_loopw [8, 9] (fun ov iv wr => ∃ j g c : Nat, j ≤ n ∧ iv = zV j ∧ ov = .slice (some ⟨g, 0, none⟩) j c ∧ Hid (Grw .i8 45 w (noF zs gs) j g c wr)) (fun _ iv _ => n - (RowKit.intOf iv).toNat)
      case atStart => exact ⟨0, _, _, Nat.zero_le _, rfl, rfl, hS.out⟩
      case round =>
        obtain ⟨j, og, oc, hj, rfl, rfl, HA⟩ := hrel
        clear hS
        by_cases hlt : j < n
        · obtain ⟨b, off, rfl, hcell⟩ := HC1.out (by omega)
          obtain ⟨b2, off2, rfl, hcell2⟩ := HC2.out (by omega)
          have g1 := hcell wr HA.out.fresh j hlt
          have g2 := hcell2 wr HA.out.fresh j hlt
          have hlt' : (j : Int) < (n : Int) := by omega
          obtain ⟨hRc, hC8, hcall⟩ := HX.out j hlt
          have HCall : Hid (∀ W, _) := hcall
          have HCall2 : Hid (∀ W, _) := fun W => HNw.out j W
          obtain ⟨t0, t1⟩ := gt_bound hRc r1
          obtain ⟨m0, m1⟩ := gm_bound hRc r1 hC8
          have hpos : ¬ zs.getD j 0 < 0 → (64 * zs.getD j 0).tdiv (r : Int) = gt (zs.getD j 0) r := fun _ => rfl
          have hneg : ∃ T, (64 * (- zs.getD j 0)).tdiv (r : Int) = T ∧ -T = gt (zs.getD j 0) r := ⟨_, rfl, gt_of_neg r⟩
          obtain ⟨x0, x1⟩ := hRc
          obtain ⟨c0, c1⟩ := hC8
          clear hcell hcell2 HX HNw HC1 HC2 hcall
          generalize zs.getD j 0 = x at *
          generalize gs.getD j 0 = g at *
          generalize gN x r g = y at *
          generalize gt x r = t at *
          obtain ⟨P, hP⟩ : ∃ P, t * g = P := ⟨_, rfl⟩
          rw [hP] at m0 m1 HCall
          have HEnd : Hid (∀ X : World, Grw .i8 45 w (noF zs gs) j og oc X → _) := fun X hX => hX.push ty8 (by simp [kb]; omega)
          by_cases hx : x < 0
          · obtain ⟨T, hT, hT2⟩ := hneg
            subst hT2
            clear hpos
            go_wp2_with fail
            refine (HCall.out _).mono ?_
            rintro e w3 ⟨rfl, d3, hw3⟩
            have HA3 : Hid (Grw .i8 45 w (noF zs gs) j og oc w3) := by show Grw _ _ _ _ _ _ _ _; rw [hw3]; exact HA.out.drew d3
            clear HCall HA hw3 g1 g2
            go_wp2_with fail
            refine (HCall2.out _).mono ?_
            rintro e w4 ⟨rfl, d4, hw4⟩
            obtain ⟨g', c', X', hr1, hG⟩ := HEnd.out w4 (by rw [hw4]; exact HA3.out.drew d4)
            have HG : Hid _ := hG
            clear HA3 HCall2 hw4 hG HEnd
            generalize noF zs gs j = c at *
            go_wp2_with (at_builtin; refine Lib.wpList_append_run _ rfl _ _ _ _ rfl _ _ rfl rfl _ _ hr1 ?_)
            go_roundw
            case rel => exact ⟨j + 1, g', c', hlt, by go_num, rfl, HG.out⟩
            case measure => simp [RowKit.intOf]; omega
          · have hT := hpos hx
            clear hpos hneg
            go_wp2_with fail
            refine (HCall.out _).mono ?_
            rintro e w3 ⟨rfl, d3, hw3⟩
            have HA3 : Hid (Grw .i8 45 w (noF zs gs) j og oc w3) := by show Grw _ _ _ _ _ _ _ _; rw [hw3]; exact HA.out.drew d3
            clear HCall HA hw3 g1 g2
            go_wp2_with fail
            refine (HCall2.out _).mono ?_
            rintro e w4 ⟨rfl, d4, hw4⟩
            obtain ⟨g', c', X', hr1, hG⟩ := HEnd.out w4 (by rw [hw4]; exact HA3.out.drew d4)
            have HG : Hid _ := hG
            clear HA3 HCall2 hw4 hG HEnd
            generalize noF zs gs j = c at *
            go_wp2_with (at_builtin; refine Lib.wpList_append_run _ rfl _ _ _ _ rfl _ _ rfl rfl _ _ hr1 ?_)
            go_roundw
            case rel => exact ⟨j + 1, g', c', hlt, by go_num, rfl, HG.out⟩
            case measure => simp [RowKit.intOf]; omega
        · obtain rfl : j = n := by omega
          have HXX : Hid (Gives .i8 45 (mkL j (noF zs gs)) 0 w (.returned (.tuple #[.slice (some ⟨og, 0, none⟩) j oc, zV 0])) wr) := HA.out.done 0
          clear HA HC1 HC2 HX HNw
          go_wp2
          go_ret2
          exact HXX.out
    · have HE : Hid (roL zs gs = []) := roL_bad (by rw [roE_n q1]; exact h0)
      have h0' : (nE zs == 0) = false := by simp [h0]
      rw [HE.out]
      have HG : Hid (∀ W, Drew w W → Gives .i8 45 [] (nE zs) w _ _) := fun W hd => Gives_empty .i8 45 (nE zs) hd.fresh
      subst hva
      subst hvb
      rw [← q1]
      clear HRk q1
      generalize nE zs = E at *
      go_enter Try.func14, Try.ntmps14
      go_wp2_with fail
      refine (HR.out ()).mono ?_
      rintro e w1 ⟨rfl, hd⟩
      have HX : Hid _ := HG.out w1 hd
      clear hd HR HG
      go_wp2
      go_ret2
      exact HX.out
  · have HE : Hid (roL zs gs = [] ∧ roE zs gs = 1) := ⟨roL_bad (by rw [roE_len q1]; omega), roE_len q1⟩
    rw [HE.out.1, HE.out.2]
    have q1' : ¬ (zs.length : Int) = (gs.length : Int) := by omega
    have HX : Hid _ := Gives_empty .i8 45 1 (Kept.refl (fun _ => False) w)
    subst hva
    subst hvb
    clear HRk HR
    go_enter Try.func14, Try.ntmps14
    go_wp2
    go_ret2
    exact HX.out
end Go.Proofs.Ytibbifklnimlcaa
