/-
  The weights of scores, the document's.
-/
import Derived.Test.YtohoppnpbgplnabDoorSfN
import Derived.Test.YtohoppnpbgplnabDoorSfr
import Derived.Test.YtohoppnpbgplnabDoorGrw
namespace Go.Proofs.YtohoppnpbgplnabDoor
open Go.RowKit Go.Lib Go.Maps

set_option maxHeartbeats 1000000 in
theorem distance_any (s m : Int) (w : World) (hs : I64 s) (hm : I64 m) (hsm : s ≤ m) :
    Calls Tryd.prog 22 #[zV s, zV m] w fun e w' => e = .returned (zV (dsN s m)) ∧ w' = w := by
  obtain ⟨s0, s1⟩ := hs
  obtain ⟨m0, m1⟩ := hm
  by_cases h1 : s < 0
  · by_cases h2 : 0 ≤ m
    · by_cases h3 : 1099511627776 < m
      · rw [show dsN s m = -1099511627776 by unfold dsN; omega]
        go_enter Tryd.func22, Tryd.ntmps22
        go_wp2
        go_ret
        exact ⟨rfl, rfl⟩
      · by_cases h4 : s < -1099511627776
        · rw [show dsN s m = -1099511627776 by unfold dsN; omega]
          go_enter Tryd.func22, Tryd.ntmps22
          go_wp2
          go_ret
          exact ⟨rfl, rfl⟩
        · by_cases h5 : s - m < -1099511627776
          · rw [show dsN s m = -1099511627776 by unfold dsN; omega]
            go_enter Tryd.func22, Tryd.ntmps22
            go_wp2
            go_ret
            exact ⟨rfl, rfl⟩
          · rw [show dsN s m = s - m by unfold dsN; omega]
            go_enter Tryd.func22, Tryd.ntmps22
            go_wp2
            go_ret
            exact ⟨rfl, rfl⟩
    · by_cases h5 : s - m < -1099511627776
      · rw [show dsN s m = -1099511627776 by unfold dsN; omega]
        go_enter Tryd.func22, Tryd.ntmps22
        go_wp2
        go_ret
        exact ⟨rfl, rfl⟩
      · rw [show dsN s m = s - m by unfold dsN; omega]
        go_enter Tryd.func22, Tryd.ntmps22
        go_wp2
        go_ret
        exact ⟨rfl, rfl⟩
  · by_cases h5 : s - m < -1099511627776
    · rw [show dsN s m = -1099511627776 by unfold dsN; omega]
      go_enter Tryd.func22, Tryd.ntmps22
      go_wp2
      go_ret
      exact ⟨rfl, rfl⟩
    · rw [show dsN s m = s - m by unfold dsN; omega]
      go_enter Tryd.func22, Tryd.ntmps22
      go_wp2
      go_ret
      exact ⟨rfl, rfl⟩
theorem dsN_bound {s m : Int} (h : s ≤ m) : -1099511627776 ≤ dsN s m ∧ dsN s m ≤ 0 := by unfold dsN; omega

set_option maxHeartbeats 4000000 in
set_option maxRecDepth 100000 in
theorem refWeights_any (p : Nat → Prop) (v : Value) (zs : List Int) (w : World) (h : Rk .i64 p w v zs) :
    Calls Tryd.prog 6 #[v] w fun e w' => Gives .i64 2 (woL zs) (wE zs.length) w e w' := by
  obtain ⟨ao, ac, rfl, _⟩ := h.shape
  have hmany := h.many
  have HG : Hid (∀ i, I64 (zs.getD i 0)) := fun i => h.get i
  by_cases hk : 1 ≤ zs.length ∧ zs.length ≤ 512
  · rw [woL_ok hk.1 hk.2, wE_ok hk.1 hk.2]
    obtain ⟨k1, k2⟩ := hk
    have HL : Hid (wL zs = mkL zs.length (wF zs)) := rfl
    rw [HL.out]
    have HX : Hid (∀ j, j < zs.length → -1099511627776 ≤ dsN (zs.getD j 0) (tp zs zs.length) ∧ dsN (zs.getD j 0) (tp zs zs.length) ≤ 0 ∧ (∀ W, Calls Tryd.prog 22 #[zV (zs.getD j 0), zV (tp zs zs.length)] W fun e w' => e = .returned (zV (dsN (zs.getD j 0) (tp zs zs.length))) ∧ w' = W) ∧ ∀ W, Calls Tryd.prog 21 #[zV (256 * dsN (zs.getD j 0) (tp zs zs.length))] W fun e w' => e = .returned (zV (wF zs j)) ∧ Drew W w') := fun j hj => by
      have hle := tp_le zs _ j hj
      obtain ⟨a, b⟩ := dsN_bound hle
      exact ⟨a, b, fun W => distance_any _ _ W (HG.out j) (tp_i64 HG.out _) hle, fun W => refExp2_any _ W ⟨by omega, by omega⟩⟩
    generalize hn : zs.length = n at *
    obtain ⟨b, off, rfl, hcell⟩ := h.stay (by omega)
    have HC1 : Hid _ := hcell
    have g0 : w.cell? ⟨b, off, none⟩ = some (zV (zs.getD 0 0)) := by simpa using hcell w (Kept.refl _ _) 0 (by omega)
    have HT0 : Hid (tp zs 0 = zs.getD 0 0) := rfl
    have hS : Hid (Grw .i64 2 w (wF zs) 0 w.heap.size 0 (w.alloc (.cells #[] 2))) := Grw.start _ (Kept.refl _ _)
    have k1' : (1 : Int) ≤ (n : Int) := by omega
    have k2' : (n : Int) ≤ 512 := by omega
    clear h hcell HG HL hn
    generalize zs.getD 0 0 = z0 at *
    generalize hW0 : w.alloc (.cells #[] 2) = W0 at *
    go_enter Tryd.func6, Tryd.ntmps6
    go_wp2
    clear g0
    go_loop [4, 5] (fun mv iv => ∃ j : Nat, j ≤ n ∧ iv = zV j ∧ mv = zV (tp zs j)) (fun _ iv => n - (RowKit.intOf iv).toNat)
    case atStart => exact ⟨0, Nat.zero_le _, rfl, by rw [HT0.out]⟩
    case round =>
      obtain ⟨j, hj, rfl, rfl⟩ := hrel
      by_cases hlt : j < n
      · have g1 := HC1.out w (Kept.refl _ _) j hlt
        have hlt' : (j : Int) < (n : Int) := by omega
        have HS : Hid (tp zs (j + 1) = max (tp zs j) (zs.getD j 0)) := rfl
        clear HC1 HT0 HX hS hW0
        generalize zs.getD j 0 = x at *
        generalize tp zs j = t at *
        by_cases hx : t < x
        · go_wp2
          go_round
          case rel => exact ⟨j + 1, hlt, by go_num, by rw [HS.out, show max t x = x by omega]⟩
          case measure => simp [RowKit.intOf]; omega
        · go_wp2
          go_round
          case rel => exact ⟨j + 1, hlt, by go_num, by rw [HS.out, show max t x = t by omega]⟩
          case measure => simp [RowKit.intOf]; omega
      · obtain rfl : j = n := by omega
        generalize tp zs j = t at *
        clear HT0
        go_wp2
        clear hW0
        go_loopw [6, 7] (fun ov iv wr => ∃ i g c : Nat, i ≤ j ∧ iv = zV i ∧ ov = .slice (some ⟨g, 0, none⟩) i c ∧ Hid (Grw .i64 2 w (wF zs) i g c wr)) (fun _ iv _ => j - (RowKit.intOf iv).toNat)
        case atStart => exact ⟨0, _, _, Nat.zero_le _, rfl, rfl, hS.out⟩
        case round =>
          obtain ⟨i, og, oc, hi, rfl, rfl, HA⟩ := hrel
          clear hS
          by_cases hlt2 : i < j
          · have g1 := HC1.out wr HA.out.fresh i hlt2
            have hlt' : (i : Int) < (j : Int) := by omega
            obtain ⟨d0, d1, hc1, hc2⟩ := HX.out i hlt2
            have HC2 : Hid (∀ W, _) := hc1
            have HC3 : Hid (∀ W, _) := hc2
            have HEnd : Hid (∀ X : World, Grw .i64 2 w (wF zs) i og oc X → _) := fun X hX => hX.push ty64 (by simp [kb]; omega)
            clear HC1 HX hc1 hc2
            generalize zs.getD i 0 = x at *
            generalize dsN x t = d at *
            go_wp2_with fail
            refine (HC2.out _).mono ?_
            rintro e w2 ⟨rfl, hw2⟩
            have hw3 := hw2.symm
            subst hw3
            clear HC2 hw2 g1
            go_wp2_with fail
            refine (HC3.out _).mono ?_
            rintro e w4 ⟨rfl, d4, hw4⟩
            obtain ⟨g', c', X', hr1, hG⟩ := HEnd.out w4 (by rw [hw4]; exact HA.out.drew d4)
            have HG : Hid _ := hG
            clear HA HC3 hw4 hG HEnd
            generalize wF zs i = c at *
            go_wp2_with (at_builtin; refine Lib.wpList_append_run _ rfl _ _ _ _ rfl _ _ rfl rfl _ _ hr1 ?_)
            go_roundw
            case rel => exact ⟨i + 1, g', c', hlt2, by go_num, rfl, HG.out⟩
            case measure => simp [RowKit.intOf]; omega
          · obtain rfl : i = j := by omega
            have HXX : Hid (Gives .i64 2 (mkL i (wF zs)) 0 w (.returned (.tuple #[.slice (some ⟨og, 0, none⟩) i oc, zV 0])) wr) := HA.out.done 0
            clear HA HC1 HX
            go_wp2
            go_ret2
            exact HXX.out
  · rw [woL_bad (by omega), wE_bad (by omega)]
    have HX : Hid (Gives .i64 2 [] 1 w _ _) := Gives_empty .i64 2 1 (Kept.refl _ w)
    clear h HG
    generalize zs.length = n at *
    by_cases h0 : n = 0
    · subst h0
      go_enter Tryd.func6, Tryd.ntmps6
      go_wp2
      go_ret2
      exact HX.out
    · have k1' : (512 : Int) < (n : Int) := by omega
      clear hk h0
      go_enter Tryd.func6, Tryd.ntmps6
      go_wp2
      go_ret2
      exact HX.out
end Go.Proofs.YtohoppnpbgplnabDoor
