/-
  The document's Stretched and Table.
-/
import Derived.Test.YtkemaofclahaiaaDoorRod
import Derived.Test.YtkemaofclahaiaaDoorRoe
namespace Go.Proofs.YtkemaofclahaiaaDoor
open Go.RowKit Go.Lib Go.Maps

theorem sn_rem {q : Int} (h : 0 ≤ q) : sn (q.tmod 256) = sn q ∧ sn (q.tmod 256 + 64) = sn (q + 64) := by
  rw [Int.tmod_eq_emod_of_nonneg h]
  refine ⟨sn_mod q, ?_⟩
  unfold sn
  rw [show (q % 256 + 64) % 256 = (q + 64) % 256 by omega]

set_option maxHeartbeats 8000000 in
set_option maxRecDepth 100000 in
theorem refTable_any (places half : Int) (w : World) :
    Calls Tryd.prog 18 #[zV places, zV half] w fun e w' => Gives2 (cosL places half 1 1) (sinL places half 1 1) (stE places half 1 1) w e w' := by
  have HG : Hid (∀ (E : Int), Gives2 [] [] E w (.returned (.tuple #[.slice none 0 0, .slice none 0 0, zV E])) w) := fun E => Gives2.none _ _
  rcases stE_cases places half 1 1 with ⟨h2, h⟩ | ⟨P, h, rfl, rfl, p1, p2, q1, q2, ⟨h2, h3⟩ | ⟨h2, n1, n2, d1, d2⟩⟩
  · rw [cosL_bad (by rw [h2]; decide), sinL_bad (by rw [h2]; decide), h2]
    clear h2
    by_cases c1 : places < 1
    · go_enter Tryd.func18, Tryd.ntmps18
      go_wp2
      go_ret3
      exact HG.out _
    · have c1' : decide (places < 1) = false := by simp; omega
      by_cases c2 : 512 < places
      · go_enter Tryd.func18, Tryd.ntmps18
        go_wp2
        go_ret3
        exact HG.out _
      · have c2' : decide (512 < places) = false := by simp; omega
        by_cases c3 : half < 1
        · go_enter Tryd.func18, Tryd.ntmps18
          go_wp2
          go_ret3
          exact HG.out _
        · have c3' : decide (half < 1) = false := by simp; omega
          have c4 : 32 < half := by omega
          go_enter Tryd.func18, Tryd.ntmps18
          go_wp2
          go_ret3
          exact HG.out _
  · omega
  · rw [cosL_ok h2, sinL_ok h2, h2]
    have c1' : decide ((P : Int) < 1) = false := by simp; omega
    have c2' : decide (512 < (P : Int)) = false := by simp; omega
    have c3' : decide ((h : Int) < 1) = false := by simp; omega
    have c4' : decide (32 < (h : Int)) = false := by simp; omega
    have HPh : Hid (P * h ≤ 16384) := by have := Nat.mul_le_mul p2 q2; show P * h ≤ 16384; omega
    have HS0 : Hid (Gr2 w (cosF 1 1 h) (sinF 1 1 h) 0 0 w.heap.size 0 (w.heap.size + 1) 0 ((w.alloc (.cells #[] 33)).alloc (.cells #[] 33))) := Gr2.start w w _ _ (Kept.refl _ w)
    clear h2 HG
    go_enter Tryd.func18, Tryd.ntmps18
    go_wp2
    generalize (w.alloc (.cells #[] 33)).alloc (.cells #[] 33) = W0 at *
    go_loopw [7, 8, 9] (fun cv sv pv wr => ∃ p g1 c1 g2 c2 : Nat, p ≤ P ∧ pv = zV p ∧ cv = .slice (some ⟨g1, 0, none⟩) (p * h) c1 ∧ sv = .slice (some ⟨g2, 0, none⟩) (p * h) c2 ∧ Hid (Gr2 w (cosF 1 1 h) (sinF 1 1 h) (p * h) (p * h) g1 c1 g2 c2 wr)) (fun _ _ pv _ => P - (RowKit.intOf pv).toNat)
    case atStart => exact ⟨0, _, _, _, _, Nat.zero_le _, rfl, by rw [Nat.zero_mul], by rw [Nat.zero_mul], by rw [Nat.zero_mul]; exact HS0.out⟩
    case round =>
      obtain ⟨p, a1, e1, a2, e2, hp, rfl, rfl, rfl, HB⟩ := hrel
      clear HS0
      by_cases hlt : p < P
      · have hlt' : (p : Int) < (P : Int) := by omega
        go_wp2
        go_loopw [7, 8, 10, 11] (fun cv sv lv iv wr => ∃ i g1 c1 g2 c2 : Nat, i ≤ h ∧ iv = zV i ∧ lv = zV (2 ^ i) ∧ cv = .slice (some ⟨g1, 0, none⟩) (p * h + i) c1 ∧ sv = .slice (some ⟨g2, 0, none⟩) (p * h + i) c2 ∧ Hid (Gr2 w (cosF 1 1 h) (sinF 1 1 h) (p * h + i) (p * h + i) g1 c1 g2 c2 wr)) (fun _ _ _ iv _ => h - (RowKit.intOf iv).toNat)
        case atStart => exact ⟨0, _, _, _, _, Nat.zero_le _, rfl, rfl, rfl, rfl, HB.out⟩
        case round =>
          obtain ⟨i, b1, f1, b2, f2, hi, rfl, rfl, rfl, rfl, HC⟩ := hrel
          clear HB
          by_cases hil : i < h
          · have hil' : (i : Int) < (h : Int) := by omega
            obtain ⟨m1, m2, m3, m4, m5, m6⟩ := ang_bound (p := p) (i := i) (num := 1) (den := 1) n1 n2 d1 d2 (by omega) (by omega)
            obtain ⟨l1, l2⟩ := pow31 i (by omega)
            have HL : Hid ((2 : Int) ^ (i + 1) = 2 ^ i * 2) := Int.pow_succ ..
            have hk1 : 64 * (p : Int) * 1 / (2 ^ i * 1) = ang 1 1 p i := rfl
            have hsz : p * h + i + 1 ≤ 16384 := by
              have := Nat.mul_le_mul_right h (show p + 1 ≤ P by omega)
              rw [Nat.add_mul] at this
              have := HPh.out
              omega
            have HE1 : Hid (cosF 1 1 h (p * h + i) = sn (ang 1 1 p i + 64)) := cosF_at _ _ _ _ hil
            have HE2 : Hid (sinF 1 1 h (p * h + i) = sn (ang 1 1 p i)) := sinF_at _ _ _ _ hil
            rw [Int.mul_one, Int.mul_one] at hk1
            generalize ang 1 1 p i = a at *
            have hk2 : (64 * (p : Int)).tdiv (2 ^ i) = a := (Int.tdiv_eq_ediv_of_nonneg (by omega)).trans hk1
            have HCo : Hid (∀ W : World, _) := fun (W : World) => refSine_any (a + 64) W
            have HSi : Hid (∀ W : World, _) := fun (W : World) => refSine_any a W
            obtain ⟨l, hl⟩ : ∃ l, (2 : Int) ^ i = l := ⟨_, rfl⟩
            rw [hl] at l1 l2 hk1 hk2 HL ⊢
            obtain ⟨q, hq⟩ : ∃ q, p * h + i = q := ⟨_, rfl⟩
            rw [hq] at HE1 HE2 HC hsz ⊢
            have h64 : 0 ≤ 64 * (p : Int) ∧ 64 * (p : Int) ≤ 32768 := by omega
            go_wp2_with fail
            
            refine (HCo.out _).mono ?_
            rintro e w3 ⟨rfl, hF3⟩
            obtain ⟨b1', f1', X1, hr1, hX1⟩ := (HC.out.fresh hF3).push (by omega)
            rw [HE1.out] at hr1
            have HX1 : Hid (Gr2 w (cosF 1 1 h) (sinF 1 1 h) (q + 1) q b1' f1' b2 f2 X1) := hX1
            clear hF3 HCo HC hX1 HE1
            go_wp2_with (at_builtin; refine Lib.wpList_append_run _ rfl _ _ _ _ rfl _ _ rfl rfl _ _ hr1 ?_; clear hr1)
            refine (HSi.out _).mono ?_
            rintro e w3 ⟨rfl, hF3⟩
            obtain ⟨b2', f2', X2, hr2, hX2⟩ := (HX1.out.fresh hF3).push' (by omega)
            rw [HE2.out] at hr2
            have HX2 : Hid (Gr2 w (cosF 1 1 h) (sinF 1 1 h) (q + 1) (q + 1) b1' f1' b2' f2' X2) := hX2
            clear hF3 HSi HX1 hX2 HE2
            go_wp2_with (at_builtin; refine Lib.wpList_append_run _ rfl _ _ _ _ rfl _ _ rfl rfl _ _ hr2 ?_; clear hr2)
            go_roundw
            case rel => exact ⟨i + 1, _, _, _, _, hil, by go_num, by rw [HL.out], by rw [← Nat.add_assoc, hq], by rw [← Nat.add_assoc, hq], by rw [← Nat.add_assoc, hq]; exact HX2.out⟩
            case measure => simp [RowKit.intOf]; omega
          · obtain rfl : i = h := by omega
            have HC' : Hid (Gr2 w (cosF 1 1 i) (sinF 1 1 i) ((p + 1) * i) ((p + 1) * i) b1 f1 b2 f2 wr) := by show Gr2 _ _ _ _ _ _ _ _ _ _; rw [Nat.add_mul, Nat.one_mul]; exact HC.out
            clear HC
            go_wp2
            go_roundw
            case rel => exact ⟨p + 1, _, _, _, _, hlt, by go_num, by rw [Nat.add_mul, Nat.one_mul], by rw [Nat.add_mul, Nat.one_mul], HC'.out⟩
            case measure => simp [RowKit.intOf]; omega
      · obtain rfl : p = P := by omega
        have HXX : Hid (Gives2 (mkL (p * h) (cosF 1 1 h)) (mkL (p * h) (sinF 1 1 h)) 0 w (.returned (.tuple #[.slice (some ⟨a1, 0, none⟩) (p * h) e1, .slice (some ⟨a2, 0, none⟩) (p * h) e2, zV 0])) wr) := HB.out.done 0
        clear HB HPh
        go_wp2
        go_ret3
        exact HXX.out

set_option maxHeartbeats 8000000 in
set_option maxRecDepth 100000 in
theorem refStretched_any (places half num den : Int) (w : World) :
    Calls Tryd.prog 20 #[zV places, zV half, zV num, zV den] w fun e w' => Gives2 (cosL places half num den) (sinL places half num den) (stE places half num den) w e w' := by
  have HG : Hid (∀ (E : Int), Gives2 [] [] E w (.returned (.tuple #[.slice none 0 0, .slice none 0 0, zV E])) w) := fun E => Gives2.none _ _
  rcases stE_cases places half num den with ⟨h2, h⟩ | ⟨P, h, rfl, rfl, p1, p2, q1, q2, ⟨h2, h3⟩ | ⟨h2, n1, n2, d1, d2⟩⟩
  · rw [cosL_bad (by rw [h2]; decide), sinL_bad (by rw [h2]; decide), h2]
    clear h2
    by_cases c1 : places < 1
    · go_enter Tryd.func20, Tryd.ntmps20
      go_wp2
      go_ret3
      exact HG.out _
    · have c1' : decide (places < 1) = false := by simp; omega
      by_cases c2 : 512 < places
      · go_enter Tryd.func20, Tryd.ntmps20
        go_wp2
        go_ret3
        exact HG.out _
      · have c2' : decide (512 < places) = false := by simp; omega
        by_cases c3 : half < 1
        · go_enter Tryd.func20, Tryd.ntmps20
          go_wp2
          go_ret3
          exact HG.out _
        · have c3' : decide (half < 1) = false := by simp; omega
          have c4 : 32 < half := by omega
          go_enter Tryd.func20, Tryd.ntmps20
          go_wp2
          go_ret3
          exact HG.out _
  · rw [cosL_bad (by rw [h2]; decide), sinL_bad (by rw [h2]; decide), h2]
    have c1' : decide ((P : Int) < 1) = false := by simp; omega
    have c2' : decide (512 < (P : Int)) = false := by simp; omega
    have c3' : decide ((h : Int) < 1) = false := by simp; omega
    have c4' : decide (32 < (h : Int)) = false := by simp; omega
    clear h2
    by_cases k1 : num < 1
    · go_enter Tryd.func20, Tryd.ntmps20
      go_wp2
      go_ret3
      exact HG.out _
    · have k1' : decide (num < 1) = false := by simp; omega
      by_cases k2 : 65536 < num
      · go_enter Tryd.func20, Tryd.ntmps20
        go_wp2
        go_ret3
        exact HG.out _
      · have k2' : decide (65536 < num) = false := by simp; omega
        by_cases k3 : den < 1
        · go_enter Tryd.func20, Tryd.ntmps20
          go_wp2
          go_ret3
          exact HG.out _
        · have k3' : decide (den < 1) = false := by simp; omega
          have k4 : 65536 < den := by omega
          go_enter Tryd.func20, Tryd.ntmps20
          go_wp2
          go_ret3
          exact HG.out _
  · rw [cosL_ok h2, sinL_ok h2, h2]
    have c1' : decide ((P : Int) < 1) = false := by simp; omega
    have c2' : decide (512 < (P : Int)) = false := by simp; omega
    have c3' : decide ((h : Int) < 1) = false := by simp; omega
    have c4' : decide (32 < (h : Int)) = false := by simp; omega
    have k1' : decide (num < 1) = false := by simp; omega
    have k2' : decide (65536 < num) = false := by simp; omega
    have k3' : decide (den < 1) = false := by simp; omega
    have k4' : decide (65536 < den) = false := by simp; omega
    have HPh : Hid (P * h ≤ 16384) := by have := Nat.mul_le_mul p2 q2; show P * h ≤ 16384; omega
    have HS0 : Hid (Gr2 w (cosF num den h) (sinF num den h) 0 0 w.heap.size 0 (w.heap.size + 1) 0 ((w.alloc (.cells #[] 33)).alloc (.cells #[] 33))) := Gr2.start w w _ _ (Kept.refl _ w)
    clear h2 HG
    go_enter Tryd.func20, Tryd.ntmps20
    go_wp2
    generalize (w.alloc (.cells #[] 33)).alloc (.cells #[] 33) = W0 at *
    go_loopw [11, 12, 13] (fun cv sv pv wr => ∃ p g1 c1 g2 c2 : Nat, p ≤ P ∧ pv = zV p ∧ cv = .slice (some ⟨g1, 0, none⟩) (p * h) c1 ∧ sv = .slice (some ⟨g2, 0, none⟩) (p * h) c2 ∧ Hid (Gr2 w (cosF num den h) (sinF num den h) (p * h) (p * h) g1 c1 g2 c2 wr)) (fun _ _ pv _ => P - (RowKit.intOf pv).toNat)
    case atStart => exact ⟨0, _, _, _, _, Nat.zero_le _, rfl, by rw [Nat.zero_mul], by rw [Nat.zero_mul], by rw [Nat.zero_mul]; exact HS0.out⟩
    case round =>
      obtain ⟨p, a1, e1, a2, e2, hp, rfl, rfl, rfl, HB⟩ := hrel
      clear HS0
      by_cases hlt : p < P
      · have hlt' : (p : Int) < (P : Int) := by omega
        go_wp2
        go_loopw [11, 12, 14, 15] (fun cv sv lv iv wr => ∃ i g1 c1 g2 c2 : Nat, i ≤ h ∧ iv = zV i ∧ lv = zV (2 ^ i) ∧ cv = .slice (some ⟨g1, 0, none⟩) (p * h + i) c1 ∧ sv = .slice (some ⟨g2, 0, none⟩) (p * h + i) c2 ∧ Hid (Gr2 w (cosF num den h) (sinF num den h) (p * h + i) (p * h + i) g1 c1 g2 c2 wr)) (fun _ _ _ iv _ => h - (RowKit.intOf iv).toNat)
        case atStart => exact ⟨0, _, _, _, _, Nat.zero_le _, rfl, rfl, rfl, rfl, HB.out⟩
        case round =>
          obtain ⟨i, b1, f1, b2, f2, hi, rfl, rfl, rfl, rfl, HC⟩ := hrel
          clear HB
          by_cases hil : i < h
          · have hil' : (i : Int) < (h : Int) := by omega
            obtain ⟨m1, m2, m3, m4, m5, m6⟩ := ang_bound (p := p) (i := i) (num := num) (den := den) n1 n2 d1 d2 (by omega) (by omega)
            obtain ⟨l1, l2⟩ := pow31 i (by omega)
            have HL : Hid ((2 : Int) ^ (i + 1) = 2 ^ i * 2) := Int.pow_succ ..
            have hk1 : 64 * (p : Int) * num / (2 ^ i * den) = ang num den p i := rfl
            have hsz : p * h + i + 1 ≤ 16384 := by
              have := Nat.mul_le_mul_right h (show p + 1 ≤ P by omega)
              rw [Nat.add_mul] at this
              have := HPh.out
              omega
            have HE1 : Hid (cosF num den h (p * h + i) = sn (ang num den p i + 64)) := cosF_at _ _ _ _ hil
            have HE2 : Hid (sinF num den h (p * h + i) = sn (ang num den p i)) := sinF_at _ _ _ _ hil
            obtain ⟨A, hA⟩ : ∃ A, 64 * (p : Int) * num = A := ⟨_, rfl⟩
            obtain ⟨D, hD⟩ : ∃ D, 2 ^ i * den = D := ⟨_, rfl⟩
            rw [hA] at m1 m2 hk1
            rw [hD] at m3 m4 hk1
            generalize ang num den p i = a at *
            have HFl : Hid (∀ W : World, _) := fun (W : World) => refFloor_ok A D W ⟨by omega, by omega⟩ m3 (by omega)
            rw [hk1] at HFl
            have HCo : Hid (∀ W : World, Calls Tryd.prog 16 #[zV (a.tmod 256 + 64)] W fun e w' => e = .returned (.int .i8 (sn (a + 64))) ∧ Fresh W w') := fun (W : World) => by rw [← (sn_rem m5).2]; exact refSine_any _ W
            have HSi : Hid (∀ W : World, Calls Tryd.prog 16 #[zV (a.tmod 256)] W fun e w' => e = .returned (.int .i8 (sn a)) ∧ Fresh W w') := fun (W : World) => by rw [← (sn_rem m5).1]; exact refSine_any _ W
            have htm : a.tmod 256 = a % 256 := Int.tmod_eq_emod_of_nonneg m5
            rw [htm] at HCo HSi
            have htb : 0 ≤ a % 256 ∧ a % 256 < 256 := by omega
            obtain ⟨l, hl⟩ : ∃ l, (2 : Int) ^ i = l := ⟨_, rfl⟩
            rw [hl] at l1 l2 hD HL ⊢
            obtain ⟨q, hq⟩ : ∃ q, p * h + i = q := ⟨_, rfl⟩
            rw [hq] at HE1 HE2 HC hsz ⊢
            have h64 : 0 ≤ 64 * (p : Int) ∧ 64 * (p : Int) ≤ 32768 := by omega
            go_wp2_with fail
            refine (HFl.out _).mono ?_
            rintro e w2 ⟨rfl, hd2⟩
            have HF2 : Hid (Fresh wr w2) := hd2.fresh
            clear hd2 HFl
            generalize a % 256 = t at *
            go_wp2_with fail
            refine (HCo.out _).mono ?_
            rintro e w3 ⟨rfl, hF3⟩
            obtain ⟨b1', f1', X1, hr1, hX1⟩ := (HC.out.fresh (HF2.out.trans hF3 (fun _ _ e => e))).push (by omega)
            rw [HE1.out] at hr1
            have HX1 : Hid (Gr2 w (cosF num den h) (sinF num den h) (q + 1) q b1' f1' b2 f2 X1) := hX1
            clear hF3 HCo HC hX1 HE1
            go_wp2_with (at_builtin; refine Lib.wpList_append_run _ rfl _ _ _ _ rfl _ _ rfl rfl _ _ hr1 ?_; clear hr1)
            refine (HSi.out _).mono ?_
            rintro e w3 ⟨rfl, hF3⟩
            obtain ⟨b2', f2', X2, hr2, hX2⟩ := (HX1.out.fresh hF3).push' (by omega)
            rw [HE2.out] at hr2
            have HX2 : Hid (Gr2 w (cosF num den h) (sinF num den h) (q + 1) (q + 1) b1' f1' b2' f2' X2) := hX2
            clear hF3 HSi HX1 hX2 HE2
            go_wp2_with (at_builtin; refine Lib.wpList_append_run _ rfl _ _ _ _ rfl _ _ rfl rfl _ _ hr2 ?_; clear hr2)
            go_roundw
            case rel => exact ⟨i + 1, _, _, _, _, hil, by go_num, by rw [HL.out], by rw [← Nat.add_assoc, hq], by rw [← Nat.add_assoc, hq], by rw [← Nat.add_assoc, hq]; exact HX2.out⟩
            case measure => simp [RowKit.intOf]; omega
          · obtain rfl : i = h := by omega
            have HC' : Hid (Gr2 w (cosF num den i) (sinF num den i) ((p + 1) * i) ((p + 1) * i) b1 f1 b2 f2 wr) := by show Gr2 _ _ _ _ _ _ _ _ _ _; rw [Nat.add_mul, Nat.one_mul]; exact HC.out
            clear HC
            go_wp2
            go_roundw
            case rel => exact ⟨p + 1, _, _, _, _, hlt, by go_num, by rw [Nat.add_mul, Nat.one_mul], by rw [Nat.add_mul, Nat.one_mul], HC'.out⟩
            case measure => simp [RowKit.intOf]; omega
      · obtain rfl : p = P := by omega
        have HXX : Hid (Gives2 (mkL (p * h) (cosF num den h)) (mkL (p * h) (sinF num den h)) 0 w (.returned (.tuple #[.slice (some ⟨a1, 0, none⟩) (p * h) e1, .slice (some ⟨a2, 0, none⟩) (p * h) e2, zV 0])) wr) := HB.out.done 0
        clear HB HPh
        go_wp2
        go_ret3
        exact HXX.out
end Go.Proofs.YtkemaofclahaiaaDoor
