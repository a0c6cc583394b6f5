/-
  Gate, the document's.
-/
import Derived.Test.YtbppahmcjifflaaDoorAcG
import Derived.Test.YtbppahmcjifflaaDoorAcb
namespace Go.Proofs.YtbppahmcjifflaaDoor
open Go.RowKit Go.Lib Go.Maps

set_option maxHeartbeats 1000000 in
set_option maxRecDepth 100000 in
theorem refGate_any (p q r : Nat → Prop) (bv gv uv : Value) (b g u : List Int) (w : World) (hb : Rk .i8 p w bv b) (hg : Rk .i8 q w gv g) (hu : Rk .i8 r w uv u) :
    Calls Tryd.prog 14 #[bv, gv, uv] w fun e w' => Gives .i8 30 (gaL b g u) (gaE b.length g.length u.length) w e w' := by
  have HG : Hid (∀ (E : Int), Gives .i8 30 [] E w (.returned (.tuple #[.slice none 0 0, zV E])) w) := fun E => Gives.none _ _ _ _
  obtain ⟨bo, bc, rfl, _⟩ := hb.shape
  obtain ⟨go, gc, rfl, _⟩ := hg.shape
  obtain ⟨uo, uc, rfl, _⟩ := hu.shape
  rcases ga_cases b.length g.length u.length with ⟨h1, h2⟩ | ⟨h1, h3, h2⟩ | ⟨h1, h3, h4, h2⟩ | ⟨h1, h3, h4, h5, h2⟩ | ⟨h1, h3, h5, h2⟩
  · rw [gaL_bad (by rw [h2]; decide), h2]
    have h1' : ¬ (b.length : Int) = 256 := by omega
    clear hb hg hu h2
    go_enter Tryd.func14, Tryd.ntmps14
    go_wp2
    go_ret2
    exact HG.out _
  · rw [gaL_bad (by rw [h2]; decide), h2]
    have h3' : (1048576 : Int) < (g.length : Int) := by omega
    clear hb hg hu h2
    go_enter Tryd.func14, Tryd.ntmps14
    go_wp2
    go_ret2
    exact HG.out _
  · rw [gaL_bad (by rw [h2]; decide), h2]
    have h3' : ¬ (1048576 : Int) < (g.length : Int) := by omega
    have h4' : (1048576 : Int) < (u.length : Int) := by omega
    clear hb hg hu h2
    go_enter Tryd.func14, Tryd.ntmps14
    go_wp2
    go_ret2
    exact HG.out _
  · rw [gaL_bad (by rw [h2]; decide), h2]
    have h3' : ¬ (1048576 : Int) < (g.length : Int) := by omega
    have h4' : ¬ (1048576 : Int) < (u.length : Int) := by omega
    have h5' : ¬ (g.length : Int) = (u.length : Int) := by omega
    clear hb hg hu h2
    go_enter Tryd.func14, Tryd.ntmps14
    go_wp2
    go_ret2
    exact HG.out _
  · rw [gaL_ok h2, h2]
    obtain ⟨n, hn⟩ : ∃ n, g.length = n := ⟨_, rfl⟩
    rw [h1] at hb ⊢
    rw [← h5] at hu ⊢
    rw [hn] at hg hu h3 ⊢
    have h3' : ¬ (1048576 : Int) < (n : Int) := by omega
    have HX : Hid (∀ j, C8 (b.getD (plN (g.getD j 0)) 0) ∧ C8 (u.getD j 0) ∧ (∀ W, Calls Tryd.prog 27 #[zV (b.getD (plN (g.getD j 0)) 0 * u.getD j 0), zV 6] W fun e w' => e = .returned (.tuple #[zV (rdQ (b.getD (plN (g.getD j 0)) 0 * u.getD j 0) 6), zV (rdE 6)]) ∧ Drew W w') ∧ ∀ W, Calls Tryd.prog 28 #[zV (rdQ (b.getD (plN (g.getD j 0)) 0 * u.getD j 0) 6)] W fun e w' => e = .returned (.int .i8 (gaF b g u j)) ∧ Drew W w') := fun j => by
      have c1 := hb.get (plN (g.getD j 0))
      have c2 := hu.get j
      have := mul8 c1 c2
      exact ⟨c1, c2, fun W => refRound_any _ 6 W ⟨by omega, by omega⟩, fun W => refNarrow_to rfl W⟩
    have H8 : Hid (∀ j, C8 (g.getD j 0)) := hg.get
    obtain ⟨bb, boff, rfl, _, hbb, hbc⟩ := hb.cells.2.2.2 (by omega)
    have HC0 : Hid (bb < w.heap.size ∧ ∀ W, Fresh w W → ∀ i, i < 256 → W.cell? ⟨bb, boff + i, none⟩ = some (.int .i8 (b.getD i 0))) := ⟨hbb, fun W hF i hi => (hF.cell (p := ⟨bb, boff + i, none⟩) hbb (fun e => e)).trans (hbc i hi)⟩
    have HC1 : Hid (0 < n → ∃ b1 off1 b2 off2, go = some ⟨b1, off1, none⟩ ∧ uo = some ⟨b2, off2, none⟩ ∧ b1 < w.heap.size ∧ b2 < w.heap.size ∧ ∀ W, Fresh w W → ∀ i, i < n → W.cell? ⟨b1, off1 + i, none⟩ = some (.int .i8 (g.getD i 0)) ∧ W.cell? ⟨b2, off2 + i, none⟩ = some (.int .i8 (u.getD i 0))) := fun hp => by
      obtain ⟨b1, off1, e1, _, k1, c1⟩ := hg.cells.2.2.2 hp
      obtain ⟨b2, off2, e2, _, k2, c2⟩ := hu.cells.2.2.2 hp
      exact ⟨b1, off1, b2, off2, e1, e2, k1, k2, fun W hF i hi => ⟨(hF.cell (p := ⟨b1, off1 + i, none⟩) k1 (fun e => e)).trans (c1 i hi), (hF.cell (p := ⟨b2, off2 + i, none⟩) k2 (fun e => e)).trans (c2 i hi)⟩⟩
    have hS : Hid (Grw .i8 30 w (gaF b g u) 0 w.heap.size 0 (w.alloc (.cells #[] 30))) := Grw.start _ (Kept.refl _ _)
    clear hb hg hu h2 h1 h5 hbb hbc HG hn
    generalize hW0 : w.alloc (.cells #[] 30) = W0 at *
    go_enter Tryd.func14, Tryd.ntmps14
    go_wp2
    clear hW0
    go_loopw [8, 33] (fun ov iv wr => ∃ j g' c' : Nat, j ≤ n ∧ iv = zV j ∧ ov = .slice (some ⟨g', 0, none⟩) j c' ∧ Hid (Grw .i8 30 w (gaF b g u) j g' c' wr)) (fun _ iv _ => n - (RowKit.intOf iv).toNat)
    case atStart => exact ⟨0, _, _, Nat.zero_le _, rfl, rfl, hS.out⟩
    case round =>
      obtain ⟨j, og, oc, hj, rfl, rfl, HA⟩ := hrel
      clear hS
      by_cases hlt : j < n
      · obtain ⟨b1, off1, b2, off2, rfl, rfl, hb1, hb2, hcell⟩ := HC1.out (by omega)
        obtain ⟨g1, g2⟩ := hcell wr HA.out.2 j hlt
        have hlt' : (j : Int) < (n : Int) := by omega
        obtain ⟨⟨y0, y1⟩, ⟨c0, c1⟩, hcall, hnar⟩ := HX.out j
        obtain ⟨x0, x1⟩ := H8.out j
        have hpl := plN_lt (g.getD j 0)
        have hpi := plN_int (g.getD j 0)
        have g0 := HC0.out.2 wr HA.out.2 _ hpl
        have HN : Hid (∀ W, _) := hnar
        have HCall : Hid (∀ W, _) := hcall
        have HEnd : Hid (∀ X : World, Grw .i8 30 w (gaF b g u) j og oc X → _) := fun X hX => hX.push ty8 (by simp [kb]; omega)
        have HFr : Hid (∀ d, Grw .i8 30 w (gaF b g u) j og oc (wr.drewN d)) := fun d => HA.out.drew d
        clear hcell HX HC0 HC1 HA hcall hb1 hb2 H8 hnar
        generalize g.getD j 0 = x at *
        generalize plN x = P at *
        generalize u.getD j 0 = c at *
        generalize b.getD P 0 = y at *
        generalize gaF b g u j = z at *
        generalize rdQ (y * c) 6 = Q at *
        generalize rdE 6 = E at *
        have hm := mul8 (x := y) (y := c) ⟨y0, y1⟩ ⟨c0, c1⟩
        by_cases hx : x < 0
        · have hP : x + 256 = (P : Int) := by omega
          have hpl' : (P : Int) < 256 := by omega
          clear hpi
          go_wp2_with fail
          go_quiet ((go_at_call 27; exact Calls.quiet_of (HCall.out _)))
          go_wp2_with fail
          refine (HN.out _).mono ?_
          rintro e w4 ⟨rfl, d4, hw4⟩
          obtain ⟨g', c', X', hr1, hG⟩ := HEnd.out w4 (by rw [hw4]; exact (HFr.out _).drew d4)
          have HG : Hid _ := hG
          clear HCall hw4 hG HEnd HFr HN
          go_wp2_with (at_builtin; refine Lib.wpList_append_run _ rfl _ _ _ _ rfl _ _ rfl rfl _ _ hr1 ?_)
          go_roundw
          case rel => exact ⟨j + 1, g', c', hlt, by go_num, rfl, HG.out⟩
          case measure => simp [RowKit.intOf]; omega
        · have hP : x = (P : Int) := by omega
          subst hP
          have hpl' : (P : Int) < 256 := by omega
          clear hpi
          go_wp2_with fail
          go_quiet ((go_at_call 27; exact Calls.quiet_of (HCall.out _)))
          go_wp2_with fail
          refine (HN.out _).mono ?_
          rintro e w4 ⟨rfl, d4, hw4⟩
          obtain ⟨g', c', X', hr1, hG⟩ := HEnd.out w4 (by rw [hw4]; exact (HFr.out _).drew d4)
          have HG : Hid _ := hG
          clear HCall hw4 hG HEnd HFr HN
          go_wp2_with (at_builtin; refine Lib.wpList_append_run _ rfl _ _ _ _ rfl _ _ rfl rfl _ _ hr1 ?_)
          go_roundw
          case rel => exact ⟨j + 1, g', c', hlt, by go_num, rfl, HG.out⟩
          case measure => simp [RowKit.intOf]; omega
      · obtain rfl : j = n := by omega
        have HXX : Hid _ := HA.out.done 0
        clear HA HC0 HC1 HX H8
        go_wp2
        go_ret2
        exact HXX.out
end Go.Proofs.YtbppahmcjifflaaDoor
