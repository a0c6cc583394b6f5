/-
  Center and Largest, the document's.
-/
import Derived.Test.YtibbifklnimlcabNoj
import Derived.Test.YtibbifklnimlcabNoc
namespace Go.Proofs.Ytibbifklnimlcab
open Go.RowKit Go.Lib Go.Maps

set_option maxHeartbeats 4000000 in
set_option maxRecDepth 100000 in
theorem refCenter_any (p : Nat → Prop) (lv : Value) (zs : List Int) (w : World) (hl : Rk .i64 p w lv zs) :
    Calls Try.prog 6 #[lv] w fun e w' => Gives3 .i64 2 (coL zs) (coM zs) (nE zs) w e w' := by
  have HR : Hid (Unit → _) := fun (_ : Unit) => refRoot_any p lv zs w hl
  obtain ⟨ao, ac, hva, _⟩ := hl.shape
  subst hva
  by_cases h0 : nE zs = 0
  · obtain ⟨l1, l2, hrc⟩ := nE_zero h0
    have HE : Hid (coL zs = mkL zs.length (ceF zs) ∧ coM zs = mN zs) := ⟨if_pos h0, if_pos h0⟩
    obtain ⟨M0, M1⟩ := mN_bound l1 hrc
    have HB : Hid (∀ j, j ≤ zs.length → -17179869184 ≤ tot zs j ∧ tot zs j ≤ 17179869184) := fun j hj => by have := tot_bound (getD_rc hrc) j; omega
    have HFl : Hid (∀ W, Calls Try.prog 17 #[zV (tot zs zs.length), zV zs.length] W fun e w' => e = .returned (.tuple #[zV (mN zs), zV (tot zs zs.length % (zs.length : Int)), zV 0]) ∧ Drew W w') := fun W => refFloor_ok _ _ W ⟨by have := HB.out zs.length (Nat.le_refl _); omega, by have := HB.out zs.length (Nat.le_refl _); omega⟩ (by omega) (by omega)
    have HRc : Hid (∀ j, Rc (zs.getD j 0)) := getD_rc hrc
    have HT : Hid (∀ j, tot zs (j + 1) = tot zs j + zs.getD j 0) := fun _ => rfl
    have HCe : Hid (∀ j, ceF zs j = zs.getD j 0 - mN zs) := fun _ => rfl
    have HC : Hid _ := hl.stay
    rw [HE.out.1, HE.out.2]
    rw [h0] at HR ⊢
    clear hl h0 hrc HE
    generalize zs.length = n at *
    generalize rV zs = V at *
    generalize tot zs n % (n : Int) = T2 at *
    go_enter Try.func6, Try.ntmps6
    go_wp2_with fail
    refine (HR.out ()).mono ?_
    rintro e w1 ⟨rfl, hd⟩
    have HF1 : Hid (Fresh w w1) := hd.fresh
    clear hd HR
    go_wp2
    go_loopw [7, 8] (fun s i wr => ∃ j : Nat, j ≤ n ∧ i = zV j ∧ s = zV (tot zs j) ∧ wr = w1) (fun _ i _ => n - (RowKit.intOf i).toNat)
    case atStart => exact ⟨0, Nat.zero_le _, rfl, rfl, rfl⟩
    case round =>
      obtain ⟨j, hj, rfl, rfl, rfl⟩ := hrel
      by_cases hlt : j < n
      · obtain ⟨b, off, rfl, hcell⟩ := HC.out (by omega)
        have g1 := hcell wr HF1.out j hlt
        have hlt' : (j : Int) < (n : Int) := by omega
        have HT1 : Hid _ := HT.out j
        obtain ⟨x0, x1⟩ := HRc.out j
        obtain ⟨s0, s1⟩ := HB.out j hj
        clear hcell HC HB HFl
        generalize zs.getD j 0 = x at *
        generalize tot zs j = S at *
        go_wp2
        go_roundw
        case rel => exact ⟨j + 1, hlt, by go_num, by rw [HT1.out], trivial⟩
        case measure => simp [RowKit.intOf]; omega
      · obtain rfl : j = n := by omega
        clear HT HB hlt hj
        generalize tot zs j = S at *
        go_wp2_with fail
        refine (HFl.out _).mono ?_
        rintro e w2 ⟨rfl, hd⟩
        have hF2 : Fresh w w2 := HF1.out.trans hd.fresh (fun _ _ e => e)
        have hS := Grw.start (k := .i64) (e := 2) (ceF zs) hF2
        clear hd HFl HF1 hF2
        generalize hW0 : w2.alloc (.cells #[] 2) = W0 at *
        have HS : Hid _ := hS
        clear hS
        go_wp2
        clear hW0
        go_loopw [12, 13] (fun ov iv wr => ∃ i g c : Nat, i ≤ j ∧ iv = zV i ∧ ov = .slice (some ⟨g, 0, none⟩) i c ∧ Hid (Grw .i64 2 w (ceF zs) i g c wr)) (fun _ iv _ => j - (RowKit.intOf iv).toNat)
        case atStart => exact ⟨0, _, _, Nat.zero_le _, rfl, rfl, HS.out⟩
        case round =>
          obtain ⟨i, og, oc, hi, rfl, rfl, HA⟩ := hrel
          clear HS
          by_cases hlt : i < j
          · obtain ⟨b, off, rfl, hcell⟩ := HC.out (by omega)
            have g1 := hcell _ HA.out.fresh i hlt
            have hlt' : (i : Int) < (j : Int) := by omega
            obtain ⟨g', c', X', hr1, hG⟩ := HA.out.push ty64 (by simp only [kb]; omega)
            rw [HCe.out i] at hr1
            have HG : Hid _ := hG
            obtain ⟨x0, x1⟩ := HRc.out i
            clear hcell HC HRc HA hG HCe
            generalize zs.getD i 0 = x at *
            generalize mN zs = M at *
            go_wp2_with (at_builtin; refine Lib.wpList_append_run _ rfl _ _ _ _ rfl _ _ rfl rfl _ _ hr1 ?_)
            go_roundw
            case rel => exact ⟨i + 1, g', c', hlt, by go_num, rfl, HG.out⟩
            case measure => simp [RowKit.intOf]; omega
          · obtain rfl : i = j := by omega
            have HX : Hid (∀ X, Grw .i64 2 w (ceF zs) i og oc X → Gives3 .i64 2 (mkL i (ceF zs)) (mN zs) 0 w (.returned (.tuple #[.slice (some ⟨og, 0, none⟩) i oc, zV (mN zs), zV 0])) X) := fun X h => ⟨_, rfl, by rw [mkL_len]; exact h.1, h.2⟩
            clear HC HRc
            go_wp2
            go_ret3
            exact HX.out _ HA.out
  · have HE : Hid (coL zs = [] ∧ coM zs = 0) := ⟨if_neg h0, if_neg h0⟩
    have h0' : (nE zs == 0) = false := beq_eq_false_iff_ne.2 h0
    rw [HE.out.1, HE.out.2]
    have HX : Hid (∀ W, Fresh w W → Gives3 .i64 2 [] 0 (nE zs) w (.returned (.tuple #[.slice (some ⟨W.heap.size, 0, none⟩) 0 0, zV 0, zV (nE zs)])) (W.alloc (.cells #[] 2))) := fun W hF => ⟨_, rfl, own_empty W _ hF.size _, hF.alloc _⟩
    clear hl HE h0
    generalize nE zs = E at *
    generalize rV zs = V at *
    go_enter Try.func6, Try.ntmps6
    go_wp2_with fail
    refine (HR.out ()).mono ?_
    rintro e w1 ⟨rfl, hd⟩
    have HY : Hid _ := HX.out w1 hd.fresh
    clear hd HR HX
    go_wp2
    go_ret3
    exact HY.out

set_option maxHeartbeats 4000000 in
set_option maxRecDepth 100000 in
theorem refLargest_any (p : Nat → Prop) (lv : Value) (zs : List Int) (w : World) (hl : Rk .i64 p w lv zs) :
    Calls Try.prog 10 #[lv] w fun e w' => e = .returned (.tuple #[zV (lgV zs), zV (lgA zs), zV (nE zs)]) ∧ Fresh w w' := by
  have HR : Hid (Unit → _) := fun (_ : Unit) => refRoot_any p lv zs w hl
  obtain ⟨ao, ac, hva, _⟩ := hl.shape
  subst hva
  by_cases h0 : nE zs = 0
  · obtain ⟨l1, l2, hrc⟩ := nE_zero h0
    have HE : Hid _ := lg_end h0
    have HB : Hid (∀ j, j ≤ zs.length → _) := fun j hj => lg_bound hrc (j := j) hj
    have HN : Hid (∀ j, j < zs.length → _) := fun j hj => lg_next (zs := zs) (j := j) hj
    have HRc : Hid (∀ j, Rc (zs.getD j 0) ∧ szF zs j = ((zs.getD j 0).natAbs : Int)) := fun j => ⟨getD_rc hrc j, rfl⟩
    have HC : Hid _ := hl.stay
    have H00 : Hid (lgS zs 0 = -1 ∧ lgP zs 0 = 0) := ⟨if_pos rfl, if_pos rfl⟩
    rw [HE.out.1, HE.out.2]
    rw [h0] at HR ⊢
    clear hl h0 hrc HE
    generalize zs.length = n at *
    generalize rV zs = V at *
    go_enter Try.func10, Try.ntmps10
    go_wp2_with fail
    refine (HR.out ()).mono ?_
    rintro e w1 ⟨rfl, hd⟩
    have HF1 : Hid (Fresh w w1) := hd.fresh
    clear hd HR
    go_wp2
    go_loopw [7, 8, 9] (fun s a i wr => ∃ j : Nat, j ≤ n ∧ i = zV j ∧ s = zV (lgS zs j) ∧ a = zV (lgP zs j) ∧ wr = w1) (fun _ _ i _ => n - (RowKit.intOf i).toNat)
    case atStart => exact ⟨0, Nat.zero_le _, rfl, by rw [H00.out.1], by rw [H00.out.2], rfl⟩
    case round =>
      obtain ⟨j, hj, rfl, rfl, rfl, rfl⟩ := hrel
      by_cases hlt : j < n
      · obtain ⟨b, off, rfl, hcell⟩ := HC.out (by omega)
        have g1 := hcell wr HF1.out j hlt
        have hlt' : (j : Int) < (n : Int) := by omega
        have HN1 : Hid _ := HN.out j hlt
        obtain ⟨⟨x0, x1⟩, hsz⟩ := HRc.out j
        obtain ⟨s0, s1, a0, a1⟩ := HB.out j hj
        clear hcell HC HB HN HRc H00
        generalize zs.getD j 0 = x at *
        generalize hS : lgS zs j = S at *
        generalize hP : lgP zs j = P at *
        generalize hF : szF zs j = F at *
        have HS1 : Hid (F = (x.natAbs : Int)) := hsz
        clear hS hP hF hsz
        by_cases hx : x < 0
        · have hF : F = -x := by rw [HS1.out]; omega
          subst hF
          clear HS1
          by_cases hgt : S < -x
          · have HG : Hid _ := HN1.out.1 hgt
            clear HN1
            go_wp2
            go_roundw
            case rel => exact ⟨j + 1, hlt, by go_num, by rw [HG.out.1], by rw [HG.out.2], trivial⟩
            case measure => simp [RowKit.intOf]; omega
          · have HG : Hid _ := HN1.out.2 (by omega)
            clear HN1
            go_wp2
            go_roundw
            case rel => exact ⟨j + 1, hlt, by go_num, by rw [HG.out.1], by rw [HG.out.2], trivial⟩
            case measure => simp [RowKit.intOf]; omega
        · have hF : F = x := by rw [HS1.out]; omega
          subst hF
          clear HS1
          by_cases hgt : S < F
          · have HG : Hid _ := HN1.out.1 hgt
            clear HN1
            go_wp2
            go_roundw
            case rel => exact ⟨j + 1, hlt, by go_num, by rw [HG.out.1], by rw [HG.out.2], trivial⟩
            case measure => simp [RowKit.intOf]; omega
          · have HG : Hid _ := HN1.out.2 (by omega)
            clear HN1
            go_wp2
            go_roundw
            case rel => exact ⟨j + 1, hlt, by go_num, by rw [HG.out.1], by rw [HG.out.2], trivial⟩
            case measure => simp [RowKit.intOf]; omega
      · obtain rfl : j = n := by omega
        clear HC HB HN HRc H00
        go_wp2
        go_ret3
        exact ⟨rfl, HF1.out⟩
  · have HE : Hid (lgV zs = 0 ∧ lgA zs = 0) := ⟨if_neg h0, if_neg h0⟩
    have h0' : (nE zs == 0) = false := beq_eq_false_iff_ne.2 h0
    rw [HE.out.1, HE.out.2]
    clear hl HE h0
    generalize nE zs = E at *
    generalize rV zs = V at *
    go_enter Try.func10, Try.ntmps10
    go_wp2_with fail
    refine (HR.out ()).mono ?_
    rintro e w1 ⟨rfl, hd⟩
    have HX : Hid _ := hd.fresh
    clear hd HR
    go_wp2
    go_ret3
    exact ⟨rfl, HX.out⟩
end Go.Proofs.Ytibbifklnimlcab
