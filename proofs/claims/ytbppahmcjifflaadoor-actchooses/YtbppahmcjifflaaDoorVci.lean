/-
  The document's Times.
-/
import Derived.Test.YtbppahmcjifflaaDoorVce
namespace Go.Proofs.YtbppahmcjifflaaDoor
open Go.RowKit Go.Lib Go.Maps

set_option maxHeartbeats 4000000 in
set_option maxRecDepth 100000 in
theorem refTimes_any (p q : Nat → Prop) (wv xv : Value) (zs ys : List Int) (c : Int) (w : World) (hw : Rk .i8 p w wv zs) (hx : Rk .i8 q w xv ys) (hc : I64 c) :
    Calls Tryd.prog 32 #[wv, zV c, xv] w fun e w' => Gives .i64 2 (tL zs c ys) (tE zs c ys) w e w' := by
  obtain ⟨ao, ac, hva, _⟩ := hw.shape
  obtain ⟨xo, xc, hvx, _⟩ := hx.shape
  subst hva
  subst hvx
  have hrows := Matrix_any ao ac zs c w
  have HG : Hid (∀ (E : Int), Gives .i64 2 [] E w (.returned (.tuple #[.slice none 0 0, zV E])) w) := fun E => Gives.none _ _ _ _
  by_cases h0 : mE zs c = 0
  · obtain ⟨hm, k, R, rfl, hk, hR⟩ := mE_zero h0
    rw [h0] at hrows
    have HR : Hid (Unit → _) := fun (_ : Unit) => hrows
    by_cases hl : ys.length = k
    · have HE : Hid (tE zs k ys = 0 ∧ tL zs k ys = (List.range R).map (fun r => dotN (part zs k r) ys)) := ⟨tE_ok h0 (by omega), by unfold tL; rw [if_pos (tE_ok h0 (by omega)), Int.toNat_natCast]; exact timesN_rows hR hk ys⟩
      have hRz : R ≤ zs.length := by rw [hR]; exact Nat.le_mul_of_pos_right _ hk
      have HO : Hid ((w.alloc (.cells #[] 2)).ownsRow w.heap.size 2 1 (.slice (some ⟨w.heap.size, 0, none⟩) 0 0) 0 [] ∧ Fresh w (w.alloc (.cells #[] 2))) := ⟨own_empty w _ (Nat.le_refl _) _, (Kept.refl _ w).alloc _⟩
      obtain ⟨n, hn⟩ : ∃ n, zs.length = n := ⟨_, rfl⟩
      have HL : Hid (n = R * k ∧ zs.length = n) := ⟨by omega, hn⟩
      rw [hn] at HR hRz hm hw ⊢
      rw [hl] at hx ⊢
      have hcap := hw.cells.2.1
      have HC : Hid (0 < n → ∃ b off, ao = some ⟨b, off, none⟩ ∧ ∀ W, Fresh w W → ∀ r m, m = r * k → r < R → m + k ≤ n → Calls Tryd.prog 52 #[.slice (some ⟨b, off + m, none⟩) k (ac - m), .slice xo k xc] W fun e w' => e = .returned (.tuple #[zV (dotN (part zs k r) ys), zV 0]) ∧ ∃ n, w' = W.drewN n) := fun hp => by
        obtain ⟨b, off, rfl, _⟩ := hw.cells.2.2.2 hp
        refine ⟨b, off, rfl, fun W hF r m hmr hr hmk => ?_⟩
        have hcut := hw.cut m k hmk
        rw [hmr, drop_part, ← hmr] at hcut
        have hlen := part_length (by rw [hn]; exact HL.out.1) hr
        have hd := refDot_any _ _ _ _ _ _ W (hcut.fresh hF) (hx.fresh hF)
        have e0 : dE (part zs k r) ys = 0 := dE_ok (by rw [hlen]; omega) (by rw [hlen, hl])
        rw [dV_ok e0, e0] at hd
        exact hd
      have hlk : (k : Int) = (k : Int) := rfl
      clear hrows hw hx hR h0 hn hl
      go_enter Tryd.func32, Tryd.ntmps32
      go_wp2_with fail
      refine (HR.out ()).mono ?_
      rintro e w1 ⟨rfl, hw1⟩
      have hw2 := hw1.symm
      subst hw2
      clear hw1 HR
      go_wp2
      go_loopw [9, 10] (fun ov iv wr => ∃ r m g cp : Nat, m ≤ n ∧ iv = zV m ∧ ov = .slice (some ⟨g, 0, none⟩) r cp ∧ Hid (m = r * k ∧ r ≤ R) ∧ Hid (wr.ownsRow w.heap.size 2 1 (.slice (some ⟨g, 0, none⟩) r cp) r ((((List.range R).map (fun r => dotN (part zs k r) ys)).take r).map zV) ∧ Fresh w wr)) (fun _ iv _ => n - (RowKit.intOf iv).toNat)
      case atStart => exact ⟨0, 0, w.heap.size, 0, Nat.zero_le _, rfl, rfl, ⟨(Nat.zero_mul k).symm, Nat.zero_le _⟩, HO.out⟩
      case round =>
        obtain ⟨r, m, g, cp, hmn, rfl, rfl, HM, HA⟩ := hrel
        clear HO
        by_cases hlt : m < n
        · have hrR : r < R := by
            rcases Nat.lt_or_ge r R with e | e
            · exact e
            · have h1 := HM.out
              have h2 := HL.out.1
              obtain rfl : r = R := by omega
              omega
          have hmk : m + k ≤ n := by
            have h1 := HM.out.1
            have h2 := HL.out.1
            have h3 := Nat.mul_le_mul_right k (show r + 1 ≤ R from hrR)
            rw [Nat.add_mul, Nat.one_mul] at h3
            omega
          obtain ⟨b, off, rfl, hcall⟩ := HC.out (by omega)
          have HD : Hid (Unit → _) := fun (_ : Unit) => hcall wr HA.out.2 r m HM.out.1 hrR hmk
          have hlt' : (m : Int) < (n : Int) := by omega
          have hmk' : (m : Int) + (k : Int) ≤ (n : Int) := by omega
          have hcm : ¬ ac = m := by omega
          have hmk2 : (m : Int) + (k : Int) ≤ (ac : Int) := by omega
          clear hcall
          go_wp2_with fail
          refine (HD.out ()).mono ?_
          rintro e w3 ⟨rfl, d3, hw3⟩
          have hO3 : w3.ownsRow w.heap.size 2 1 (.slice (some ⟨g, 0, none⟩) r cp) r ((((List.range R).map (fun r => dotN (part zs k r) ys)).take r).map zV) ∧ Fresh w w3 := by rw [hw3]; exact ⟨HA.out.1, HA.out.2.drewN d3⟩
          obtain ⟨ga, ca, Wa, hra, hoa, hga, hka⟩ := push ty64 w3 w.heap.size g cp r (((List.range R).map (fun r => dotN (part zs k r) ys)).take r) (dotN (part zs k r) ys) hO3.1 (by simp [kb]; omega) hO3.2.size
          have hgb := (own_block hO3.1).1
          have HN1 : Hid (Wa.ownsRow w.heap.size 2 1 (.slice (some ⟨ga, 0, none⟩) (r + 1) ca) (r + 1) ((((List.range R).map (fun r => dotN (part zs k r) ys)).take (r + 1)).map zV) ∧ Fresh w Wa) := ⟨by rw [range_take _ hrR]; exact hoa, hO3.2.trans hka (fun j hj e => by omega)⟩
          have HM1 : Hid (m + k = (r + 1) * k ∧ r + 1 ≤ R) := ⟨by rw [Nat.add_mul, Nat.one_mul, HM.out.1], hrR⟩
          generalize dotN (part zs k r) ys = S at *
          clear hoa hga hka HA HM HC HD hw3 hO3 hgb
          go_wp2_with (at_builtin; refine Lib.wpList_append_run _ rfl _ _ _ _ rfl _ _ rfl rfl _ _ hra ?_)
          go_roundw
          case rel => exact ⟨r + 1, m + k, ga, ca, hmk, by go_num, rfl, HM1.out, HN1.out⟩
          case measure => simp [RowKit.intOf]; omega
        · obtain rfl : m = n := by omega
          have hrR : r = R := by
            have h1 := HM.out
            have h2 := HL.out.1
            rcases Nat.lt_or_ge r R with e | e
            · have h3 := Nat.mul_le_mul_right k (show r + 1 ≤ R from e)
              rw [Nat.add_mul, Nat.one_mul] at h3
              omega
            · omega
          subst hrR
          have HX : Hid (Gives .i64 2 (tL zs k ys) (tE zs k ys) w (.returned (.tuple #[.slice (some ⟨g, 0, none⟩) r cp, zV 0])) wr) := by
            refine ⟨_, by rw [HE.out.1], ?_, HA.out.2⟩
            have := HA.out.1
            rw [List.take_of_length_le (by simp)] at this
            rw [HE.out.2]
            simpa using this
          clear HA HC HM
          go_wp2
          go_ret2
          exact HX.out
    · have HE : Hid (tE zs k ys = 80 ∧ tL zs k ys = []) := ⟨tE_else h0 (by omega), tL_bad (by rw [tE_else h0 (by omega)]; omega)⟩
      rw [HE.out.1, HE.out.2]
      have hl' : ¬ (ys.length : Int) = (k : Int) := by omega
      clear hrows hw hx hR h0 hl
      go_enter Tryd.func32, Tryd.ntmps32
      go_wp2_with fail
      refine (HR.out ()).mono ?_
      rintro e w1 ⟨rfl, hw1⟩
      have hw2 := hw1.symm
      subst hw2
      clear hw1 HR
      go_wp2
      go_ret2
      exact HG.out _
  · have HE : Hid (tE zs c ys = mE zs c ∧ tL zs c ys = []) := ⟨tE_bad _ h0, tL_bad (by rw [tE_bad _ h0]; exact h0)⟩
    rw [HE.out.1, HE.out.2]
    have HR : Hid (Unit → _) := fun (_ : Unit) => hrows
    have h0' : (mE zs c == 0) = false := by simp [h0]
    clear hrows hw hx
    go_enter Tryd.func32, Tryd.ntmps32
    go_wp2_with fail
    refine (HR.out ()).mono ?_
    rintro e w1 ⟨rfl, hw1⟩
    have hw2 := hw1.symm
    subst hw2
    clear hw1 HR
    go_wp2
    go_ret2
    exact HG.out _
end Go.Proofs.YtbppahmcjifflaaDoor
