/-
  Gate, the package's.
-/
import Derived.Test.YtbppahmcjifflaaDoorAcG
import Derived.Test.YtbppahmcjifflaaDoorAca
namespace Go.Proofs.YtbppahmcjifflaaDoor
open Go.RowKit Go.Lib Go.Maps

set_option maxHeartbeats 400000 in
theorem placeOf_any (x : Int) (w : World) : Calls Tryd.prog 26 #[.int .i8 x] w fun e w' => e = .returned (zV (plN x : Nat)) ∧ w' = w := by
  have h := plN_int x
  have h2 := plN_lt x
  generalize plN x = p at *
  have e1 : IntKind.u8.wrap x = (p : Int) := by rw [IntKind.wrap_u8, h]
  clear h
  go_enter Tryd.func26, Tryd.ntmps26
  go_wp2
  go_ret
  exact ⟨rfl, rfl⟩

set_option maxHeartbeats 1000000 in
set_option maxRecDepth 100000 in
theorem Gate_any (p q r : Nat → Prop) (bv gv uv : Value) (b g u : List Int) (w : World) (hb : Rk .i8 p w bv b) (hg : Rk .i8 q w gv g) (hu : Rk .i8 r w uv u) :
    Calls Tryd.prog 13 #[bv, gv, uv] w fun e w' => Gives .i8 30 (gaL b g u) (gaE b.length g.length u.length) w e w' := by
  have HG : Hid (∀ (E : Int), Gives .i8 30 [] E w (.returned (.tuple #[.slice none 0 0, zV E])) w) := fun E => Gives.none _ _ _ _
  obtain ⟨bo, bc, rfl, _⟩ := hb.shape
  obtain ⟨go, gc, rfl, _⟩ := hg.shape
  obtain ⟨uo, uc, rfl, _⟩ := hu.shape
  rcases ga_cases b.length g.length u.length with ⟨h1, h2⟩ | ⟨h1, h3, h2⟩ | ⟨h1, h3, h4, h2⟩ | ⟨h1, h3, h4, h5, h2⟩ | ⟨h1, h3, h5, h2⟩
  · rw [gaL_bad (by rw [h2]; decide), h2]
    have h1' : ¬ (b.length : Int) = 256 := by omega
    clear hb hg hu h2
    go_enter Tryd.func13, Tryd.ntmps13
    go_wp2
    go_ret2
    exact HG.out _
  · rw [gaL_bad (by rw [h2]; decide), h2]
    have h3' : (1048576 : Int) < (g.length : Int) := by omega
    clear hb hg hu h2
    go_enter Tryd.func13, Tryd.ntmps13
    go_wp2
    go_ret2
    exact HG.out _
  · rw [gaL_bad (by rw [h2]; decide), h2]
    have h3' : ¬ (1048576 : Int) < (g.length : Int) := by omega
    have h4' : (1048576 : Int) < (u.length : Int) := by omega
    clear hb hg hu h2
    go_enter Tryd.func13, Tryd.ntmps13
    go_wp2
    go_ret2
    exact HG.out _
  · rw [gaL_bad (by rw [h2]; decide), h2]
    have h3' : ¬ (1048576 : Int) < (g.length : Int) := by omega
    have h4' : ¬ (1048576 : Int) < (u.length : Int) := by omega
    have h5' : ¬ (g.length : Int) = (u.length : Int) := by omega
    clear hb hg hu h2
    go_enter Tryd.func13, Tryd.ntmps13
    go_wp2
    go_ret2
    exact HG.out _
  · rw [gaL_ok h2, h2]
    obtain ⟨n, hn⟩ : ∃ n, g.length = n := ⟨_, rfl⟩
    rw [h1] at hb ⊢
    rw [← h5] at hu ⊢
    rw [hn] at hg hu h3 ⊢
    have h3' : ¬ (1048576 : Int) < (n : Int) := by omega
    have HX : Hid (∀ j, C8 (b.getD (plN (g.getD j 0)) 0) ∧ C8 (u.getD j 0) ∧ (∀ W, Calls Tryd.prog 25 #[zV (b.getD (plN (g.getD j 0)) 0 * u.getD j 0), zV 6] W fun e w' => e = .returned (.int .i8 (gaF b g u j)) ∧ Drew W w')) := fun j => by
      have c1 := hb.get (plN (g.getD j 0))
      have c2 := hu.get j
      have := mul8 c1 c2
      exact ⟨c1, c2, fun W => rounded_any _ 6 W ⟨by omega, by omega⟩⟩
    obtain ⟨bb, boff, rfl, _, hbb, hbc⟩ := hb.cells.2.2.2 (by omega)
    have HC0 : Hid (bb < w.heap.size ∧ ∀ W, Fresh w W → ∀ i, i < 256 → W.cell? ⟨bb, boff + i, none⟩ = some (.int .i8 (b.getD i 0))) := ⟨hbb, fun W hF i hi => (hF.cell (p := ⟨bb, boff + i, none⟩) hbb (fun e => e)).trans (hbc i hi)⟩
    have HC1 : Hid (0 < n → ∃ b1 off1 b2 off2, go = some ⟨b1, off1, none⟩ ∧ uo = some ⟨b2, off2, none⟩ ∧ b1 < w.heap.size ∧ b2 < w.heap.size ∧ ∀ W, Fresh w W → ∀ i, i < n → W.cell? ⟨b1, off1 + i, none⟩ = some (.int .i8 (g.getD i 0)) ∧ W.cell? ⟨b2, off2 + i, none⟩ = some (.int .i8 (u.getD i 0))) := fun hp => by
      obtain ⟨b1, off1, e1, _, k1, c1⟩ := hg.cells.2.2.2 hp
      obtain ⟨b2, off2, e2, _, k2, c2⟩ := hu.cells.2.2.2 hp
      exact ⟨b1, off1, b2, off2, e1, e2, k1, k2, fun W hF i hi => ⟨(hF.cell (p := ⟨b1, off1 + i, none⟩) k1 (fun e => e)).trans (c1 i hi), (hF.cell (p := ⟨b2, off2 + i, none⟩) k2 (fun e => e)).trans (c2 i hi)⟩⟩
    have HFil := Fil.start (k := .i8) (e := 30) w n (gaF b g u) (by omega)
    have hmk := run_mk ty8 n n (Nat.le_refl _) (by simp [kb]; omega) w
    clear hb hg hu h2 h1 h5 hbb hbc HG hn
    generalize w.alloc (.cells ((List.replicate n (0 : Int)).map (Value.int .i8)).toArray 30) = W0 at *
    have HW0 : Hid _ := HFil
    clear HFil
    go_enter Tryd.func13, Tryd.ntmps13
    go_wp2
    clear hmk
    go_loopw [32] (fun iv wr => ∃ j : Nat, j ≤ n ∧ iv = zV j ∧ Hid (Fil .i8 30 w n (gaF b g u) j wr)) (fun iv _ => n - (RowKit.intOf iv).toNat)
    case atStart => exact ⟨0, Nat.zero_le _, rfl, HW0.out⟩
    case round =>
      obtain ⟨j, hj, rfl, HA⟩ := hrel
      clear HW0
      by_cases hlt : j < n
      · obtain ⟨b1, off1, b2, off2, rfl, rfl, hb1, hb2, hcell⟩ := HC1.out (by omega)
        obtain ⟨g1, g2⟩ := hcell wr HA.out.2 j hlt
        have hlt' : (j : Int) < (n : Int) := by omega
        obtain ⟨⟨y0, y1⟩, ⟨c0, c1⟩, hcall⟩ := HX.out j
        have hpl := plN_lt (g.getD j 0)
        have g0 := HC0.out.2 wr HA.out.2 _ hpl
        have hpl' : ((plN (g.getD j 0) : Nat) : Int) < 256 := by omega
        have HCall : Hid (∀ W, _) := hcall
        have HPl : Hid (∀ W, _) := fun W => placeOf_any (g.getD j 0) W
        have f4 := own_frozen HA.out.1 j
        have g4 := own_get HA.out.1 j hlt
        have HXX : Hid (∀ d, Fil .i8 30 w n (gaF b g u) (j + 1) ((wr.setCell ⟨w.heap.size, j, none⟩ (.int .i8 (gaF b g u j))).drewN d)) := fun d => (HA.out.next hlt).drew d
        have hbb := HC0.out.1
        have hne2 : b2 ≠ w.heap.size := by omega
        have hne3 : bb ≠ w.heap.size := by omega
        have hne2' : w.heap.size ≠ b2 := by omega
        have hne3' : w.heap.size ≠ bb := by omega
        clear hcell HX HC0 HC1 HA hcall hb1 hb2 hbb
        generalize g.getD j 0 = x at *
        generalize plN x = P at *
        generalize u.getD j 0 = c at *
        generalize b.getD P 0 = y at *
        generalize gaF b g u j = z at *
        have hm := mul8 (x := y) (y := c) ⟨y0, y1⟩ ⟨c0, c1⟩
        have e1 : IntKind.i64.wrap c = c := by rw [IntKind.wrap_i64]; omega
        have e2 : IntKind.i64.wrap y = y := by rw [IntKind.wrap_i64]; omega
        have e3 : IntKind.i64.wrap (y * c) = y * c := by rw [IntKind.wrap_i64]; omega
        have HCall3 : Hid (∀ W, Calls Tryd.prog 25 #[.int .i64 (IntKind.i64.wrap (IntKind.i64.wrap y * IntKind.i64.wrap c)), zV 6] W fun e w' => e = .returned (.int .i8 z) ∧ Drew W w') := fun W => by rw [e1, e2, e3]; exact HCall.out W
        clear e1 e2 e3 HCall hm
        go_wp2_with fail
        go_region_held3 (fun X => X.cell? ⟨bb, boff + P, none⟩ = some (.int .i8 y) ∧ X.cell? ⟨b2, off2 + j, none⟩ = some (.int .i8 c)) (go_keep) (first | (go_at_call 26; refine (HPl.out _).mono ?_; rintro e w' ⟨rfl, rfl⟩) | (go_at_call 25; refine (HCall3.out _).mono ?_; rintro e w' ⟨rfl, n', rfl⟩))
        go_wp2
        go_roundw
        case rel => exact ⟨j + 1, hlt, by go_num, HXX.out _⟩
        case measure => simp [RowKit.intOf]; omega
      · obtain rfl : j = n := by omega
        have HXX : Hid _ := HA.out.done 0
        clear HA HC0 HC1 HX
        go_wp2
        go_ret2
        exact HXX.out
end Go.Proofs.YtbppahmcjifflaaDoor
