/-
  The means of columns, the document's.
-/
import Derived.Test.YtohoppnpbgplnabDoorSfg
import Derived.Test.YtohoppnpbgplnabDoorSfd
import Derived.Test.YtohoppnpbgplnabDoorGrw
namespace Go.Proofs.YtohoppnpbgplnabDoor
open Go.RowKit Go.Lib Go.Maps

theorem colMe {ws : List Int} {L : List (List Int)} (h : meE ws L.length = 0) (c : Nat) : meE ws (colN L c).length = 0 ∧ meV ws (colN L c) = msF ws L c := by
  have e : (colN L c).length = L.length := mkL_len _ _
  have h' : meE ws (colN L c).length = 0 := by rw [e]; exact h
  exact ⟨h', meV_ok h'⟩
theorem colRoom {n : Nat} (h : n ≤ 512) (L : List (List Int)) (hn : L.length = n) (c : Nat) : (colN L c).length * kb .i8 ≤ 140737488351232 := by
  rw [colN, mkL_len, hn]
  simp [kb]
  omega

set_option maxHeartbeats 8000000 in
set_option maxRecDepth 100000 in
theorem refMeans_any (p q : Nat → Prop) (wv lv : Value) (ws : List Int) (L : List (List Int)) (w : World) (hw : Rk .i64 p w wv ws) (hl : LL .i8 q w lv L) :
    Calls Tryd.prog 7 #[wv, lv] w fun e w' => Gives .i8 37 (msL ws L) (msE ws L) w e w' := by
  have hmany := hl.many
  have hmany2 := hw.many
  have HG : Hid (ws.length ≤ 512 → ∀ W, Fresh w W → Calls Tryd.prog 23 #[wv] W fun e w' => e = .returned (.tuple #[zV (goS ws), .bool (goB ws)]) ∧ w' = W) := fun h W hF => good_any p wv ws W (hw.fresh hF) h
  have HV : Hid (∀ i c, C8 ((L.getD i []).getD c 0)) := hl.c8
  have HRoom : Hid ((L.getD 0 []).length * kb .i8 ≤ 140737488351232) := hl.room
  have HWS : Hid (∀ W, Fresh w W → Rk .i64 p W wv ws) := fun W hF => hw.fresh hF
  obtain ⟨ao, ac, rfl, _⟩ := hw.shape
  obtain ⟨bo, bc, rfl, _⟩ := hl.shape
  by_cases q1 : ws.length = L.length
  · by_cases q2 : ws.length ≤ 512
    · have HC2 : Hid _ := hl.look
      have HNo : Hid (∀ i, i < L.length → (L.getD i []).length ≠ (L.getD 0 []).length → msL ws L = [] ∧ msE ws L = 1) := fun i hi he => by
        have hB := lvB_not hi he
        exact ⟨msL_bad (by rw [msE_un hB]; decide), msE_un hB⟩
      have HYes : Hid ((∀ i, i < L.length → (L.getD i []).length = (L.getD 0 []).length) → (goB ws = false ∧ msL ws L = [] ∧ msE ws L = 110) ∨ (goB ws = true ∧ 1 ≤ L.length ∧ msL ws L = mkL (L.getD 0 []).length (msF ws L) ∧ msE ws L = 0 ∧ meE ws L.length = 0)) := fun ha => by
        have hB := lvB_of ha
        have hE : msE ws L = meE ws L.length := msE_lv hB
        cases hg : goB ws with
        | true =>
          right
          unfold goB at hg
          have hO := (Bool.and_eq_true_iff.1 hg).1
          have hT := of_decide_eq_true (Bool.and_eq_true_iff.1 hg).2
          have h0 : meE ws L.length = 0 := meE_ok q1 (by omega) hO (by omega)
          exact ⟨rfl, meE_some h0, msL_ok (by rw [hE]; exact h0), by rw [hE]; exact h0, h0⟩
        | false =>
          left
          have h0 : meE ws L.length = 110 := meE_mean q1 (by omega) (by
            cases hO : okW ws with
            | false => exact .inl rfl
            | true =>
              right
              unfold goB at hg
              rw [hO, Bool.true_and, decide_eq_false_iff_not] at hg
              have := tot_i64 hO (n := ws.length) (by omega)
              omega)
          exact ⟨rfl, msL_bad (by rw [hE, h0]; decide), by rw [hE, h0]⟩
      have HGd : Hid _ := HG.out q2
      have HEm : Hid (∀ E W, Fresh w W → Gives .i8 37 [] E w _ _) := fun E W hF => Gives_empty .i8 37 E hF
      have q2' : (ws.length : Int) ≤ 512 := by omega
      rw [q1] at hw HWS HGd q2 q2' hmany2 ⊢
      have HLn : Hid (L.length = L.length) := rfl
      clear hw hl HG q1
      generalize hn : L.length = n at *
      generalize msL ws L = R at *
      generalize msE ws L = EE at *
      generalize hN : (L.getD 0 []).length = N at *
      have HNN : Hid ((L.getD 0 []).length = N) := hN
      clear hN
      go_enter Tryd.func7, Tryd.ntmps7
      go_wp2
      go_loopw [6] (fun iv wr => ∃ j d : Nat, j ≤ n ∧ iv = zV j ∧ wr = w.drewN d ∧ Hid (∀ i, i < j → (L.getD i []).length = N)) (fun iv _ => n - (RowKit.intOf iv).toNat)
      case atStart => exact ⟨0, 0, Nat.zero_le _, rfl, rfl, fun i hi => absurd hi (Nat.not_lt_zero _)⟩
      case round =>
        obtain ⟨j, d, hj, rfl, rfl, HA⟩ := hrel
        by_cases hlt : j < n
        · obtain ⟨b, off, rfl, hcell⟩ := HC2.out (by omega)
          obtain ⟨a1, c1, g1, _⟩ := hcell w (Kept.refl _ _) j hlt
          obtain ⟨a0, c0, g0', _⟩ := hcell w (Kept.refl _ _) 0 (by omega)
          have g0 : w.cell? ⟨b, off, none⟩ = some (.slice a0 N c0) := by rw [HNN.out] at g0'; simpa using g0'
          have hlt' : (j : Int) < (n : Int) := by omega
          have hn0 : (0 : Int) < (n : Int) := by omega
          have HB : Hid ((L.getD j []).length = N → ∀ i, i < j + 1 → (L.getD i []).length = N) := fun hz i hi => by
            by_cases e : i = j
            · subst e; exact hz
            · exact HA.out i (by omega)
          have HN' : Hid _ := HNo.out j hlt
          clear hcell HC2 HNo HA HYes g0' HGd HWS HRoom HV HLn
          clear HNN
          generalize (L.getD j []).length = x at *
          by_cases he : x = N
          · subst he
            clear HN'
            go_wp2_with fail
            go_quiet (fail)
            go_wp2
            go_roundw
            case rel => exact ⟨j + 1, d + nq, hlt, by go_num, rfl, HB.out (by trivial)⟩
            case measure => simp [RowKit.intOf]; omega
          · obtain ⟨e1, e2⟩ := HN'.out he
            subst e1
            subst e2
            have he' : ¬ (x : Int) = (N : Int) := by omega
            have HX : Hid (∀ D, _) := fun D => HEm.out 1 (w.drewN D) (kept_drewN _ _ _)
            clear he HN' HB HEm
            go_wp2_with fail
            go_quiet (fail)
            go_wp2
            go_ret2
            exact HX.out _
        · obtain rfl : j = n := by omega
          rcases HYes.out HA.out with ⟨hg, e1, e2⟩ | ⟨hg, k1, e1, e2, h0⟩
          · subst e1
            subst e2
            rw [hg] at HGd
            have HX : Hid (∀ D, _) := fun D => HEm.out 110 (w.drewN D) (kept_drewN _ _ _)
            clear HC2 HNo HA HYes HWS HRoom HV HLn HEm
            generalize goS ws = S at *
            go_wp2_with fail
            refine (HGd.out _ (kept_drewN _ _ _)).mono ?_
            rintro e w1 ⟨rfl, hw1⟩
            have hw2 := hw1.symm
            subst hw2
            clear hw1 HGd
            go_wp2
            go_ret2
            exact HX.out _
          · subst e1
            subst e2
            rw [hg] at HGd
            have HCol : Hid (∀ c, meE ws (colN L c).length = 0 ∧ meV ws (colN L c) = msF ws L c) := fun c => colMe (by rw [hn]; exact h0) c
            have HColR : Hid (∀ c, (colN L c).length * kb .i8 ≤ 140737488351232 ∧ (∀ z ∈ colN L c, Fit .i8 z) ∧ colN L c = mkL j (fun i => (L.getD i []).getD c 0)) := fun c => ⟨colRoom q2 L hn c, fun z hz => by
              obtain ⟨i, _, rfl⟩ := mkL_mem hz
              exact HV.out i c, by unfold colN; rw [hn]⟩
            obtain ⟨b, off, rfl, hcell⟩ := HC2.out (by omega)
            have HCe2 : Hid (∀ W, Fresh w W → ∀ i, i < j → ∃ a1 c1, W.cell? ⟨b, off + i, none⟩ = some (.slice a1 N c1) ∧ Rk .i8 q W (.slice a1 N c1) (L.getD i [])) := fun W hF i hi => by
              have := hcell W hF i hi
              rw [HA.out i hi] at this
              exact this
            have hroom := HRoom.out
            simp only [kb, Nat.mul_one] at hroom
            have hn0 : (0 : Int) < (j : Int) := by omega
            clear HC2 HNo HA HYes HRoom HV HLn HEm hcell h0 hg hn HNN
            generalize goS ws = S at *
            go_wp2_with fail
            refine (HGd.out _ (kept_drewN _ _ _)).mono ?_
            rintro e w1 ⟨rfl, hw1⟩
            have hF1 : Fresh w w1 := by rw [hw1]; exact kept_drewN _ _ _
            have hS : Hid (Grw .i8 37 w (msF ws L) 0 w1.heap.size 0 (w1.alloc (.cells #[] 37))) := Grw.start _ hF1
            clear hw1 HGd hF1
            generalize hW0 : w1.alloc (.cells #[] 37) = W0 at *
            go_wp2
            clear hW0
            go_loopw [9, 10] (fun ov iv wr => ∃ c g cc : Nat, c ≤ N ∧ iv = zV c ∧ ov = .slice (some ⟨g, 0, none⟩) c cc ∧ Hid (Grw .i8 37 w (msF ws L) c g cc wr)) (fun _ iv _ => N - (RowKit.intOf iv).toNat)
            case atStart => exact ⟨0, _, _, Nat.zero_le _, rfl, rfl, hS.out⟩
            case round =>
              obtain ⟨c, og, oc, hc, rfl, rfl, HA⟩ := hrel
              clear hS
              obtain ⟨a0, c0, g0', _⟩ := HCe2.out wr HA.out.fresh 0 (by omega)
              have g0 : wr.cell? ⟨b, off, none⟩ = some (.slice a0 N c0) := by simpa using g0'
              clear g0'
              by_cases hlt2 : c < N
              · have hlt2' : (c : Int) < (N : Int) := by omega
                have hS2 : Hid (Grw .i8 37 wr (fun i => (L.getD i []).getD c 0) 0 wr.heap.size 0 (wr.alloc (.cells #[] 37))) := Grw.start _ (Kept.refl _ wr)
                generalize hW1 : wr.alloc (.cells #[] 37) = W1 at *
                go_wp2
                clear hW1 g0
                go_loopw [11, 12] (fun ov iv wi => ∃ i g cc : Nat, i ≤ j ∧ iv = zV i ∧ ov = .slice (some ⟨g, 0, none⟩) i cc ∧ Hid (Grw .i8 37 wr (fun i => (L.getD i []).getD c 0) i g cc wi)) (fun _ iv _ => j - (RowKit.intOf iv).toNat)
                case atStart => exact ⟨0, _, _, Nat.zero_le _, rfl, rfl, hS2.out⟩
                case round =>
                  obtain ⟨i, ig, ic, hi, rfl, rfl, HI⟩ := hrel
                  clear hS2
                  by_cases hlt3 : i < j
                  · have hlt3' : (i : Int) < (j : Int) := by omega
                    have hFi := HA.out.fresh.trans HI.out.fresh (fun _ _ e => e)
                    obtain ⟨ra, rc, g2, hrow⟩ := HCe2.out _ hFi i hlt3
                    obtain ⟨rb, roff, rfl, hrc⟩ := hrow.stay (by omega)
                    have g3 := hrc _ (Kept.refl _ _) c hlt2
                    obtain ⟨g', c', X', hr1, hGr⟩ := HI.out.push ty8 (by simp [kb]; omega)
                    have HGr : Hid _ := hGr
                    clear hrow hrc hFi HI hGr
                    generalize (L.getD i []).getD c 0 = y at *
                    go_wp2_with (at_builtin; refine Lib.wpList_append_run _ rfl _ _ _ _ rfl _ _ rfl rfl _ _ hr1 ?_)
                    go_roundw
                    case rel => exact ⟨i + 1, g', c', hlt3, by go_num, rfl, HGr.out⟩
                    case measure => simp [RowKit.intOf]; omega
                  · obtain rfl : i = j := by omega
                    have hFi := HA.out.fresh.trans HI.out.fresh (fun _ _ e => e)
                    have hcol := HI.out.1
                    rw [← (HColR.out c).2.2] at hcol
                    have HCall : Hid (Unit → _) := fun (_ : Unit) => refMean_any _ _ _ _ _ _ _ (HWS.out _ hFi) (rk_of_own hcol (HColR.out c).1 (HColR.out c).2.1)
                    rw [(HCol.out c).1, (HCol.out c).2] at HCall
                    have HFI : Hid _ := HI.out.fresh
                    have HEnd : Hid (∀ X : World, Grw .i8 37 w (msF ws L) c og oc X → _) := fun X hX => hX.push ty8 (by simp [kb]; omega)
                    clear hFi hcol HI HCol HColR HWS HCe2
                    go_wp2_with fail
                    refine (HCall.out ()).mono ?_
                    rintro e w5 ⟨rfl, d5, hw5⟩
                    have hF5 := HFI.out.drewN d5
                    rw [← hw5] at hF5
                    obtain ⟨g', c', X', hr1, hG⟩ := HEnd.out w5 ⟨owns_kept HA.out.1 hF5 (fun _ _ e => e), HA.out.fresh.trans hF5 (fun _ _ e => e)⟩
                    have HGr : Hid _ := hG
                    clear HEnd HA hF5 hw5 hG HCall HFI
                    generalize msF ws L c = y at *
                    go_wp2_with (at_builtin; refine Lib.wpList_append_run _ rfl _ _ _ _ rfl _ _ rfl rfl _ _ hr1 ?_)
                    go_roundw
                    case rel => exact ⟨c + 1, g', c', hlt2, by go_num, rfl, HGr.out⟩
                    case measure => simp [RowKit.intOf]; omega
              · obtain rfl : c = N := by omega
                have HXX : Hid (Gives .i8 37 (mkL c (msF ws L)) 0 w (.returned (.tuple #[.slice (some ⟨og, 0, none⟩) c oc, zV 0])) wr) := HA.out.done 0
                clear HA HCe2 HCol HColR HWS
                go_wp2
                go_ret2
                exact HXX.out
    · have hE : msE ws L = 1 := by
        cases hB : lvB L with
        | false => exact msE_un hB
        | true => rw [msE_lv hB]; exact meE_arg (.inr (by omega))
      rw [msL_bad (by rw [hE]; decide), hE]
      have HX : Hid (Gives .i8 37 [] 1 w _ _) := Gives_empty .i8 37 1 (Kept.refl _ w)
      have q2' : (512 : Int) < (ws.length : Int) := by omega
      rw [q1] at q2' hmany2 ⊢
      clear hw hl HG HV HRoom HWS q2 q1 hE
      generalize L.length = n at *
      go_enter Tryd.func7, Tryd.ntmps7
      go_wp2
      go_ret2
      exact HX.out
  · have hE : msE ws L = 1 := by
      cases hB : lvB L with
      | false => exact msE_un hB
      | true => rw [msE_lv hB]; exact meE_arg (.inl q1)
    rw [msL_bad (by rw [hE]; decide), hE]
    have HX : Hid (Gives .i8 37 [] 1 w _ _) := Gives_empty .i8 37 1 (Kept.refl _ w)
    have q1' : ¬ (ws.length : Int) = (L.length : Int) := by omega
    clear hw hl HG HV HRoom HWS q1 hE
    generalize L.length = n at *
    generalize ws.length = m at *
    go_enter Tryd.func7, Tryd.ntmps7
    go_wp2
    go_ret2
    exact HX.out
end Go.Proofs.YtohoppnpbgplnabDoor
