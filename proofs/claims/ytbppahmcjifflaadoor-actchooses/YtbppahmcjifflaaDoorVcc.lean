/-
  Dot, the package's and the document's; how many rows a matrix has; the products of all rows of a matrix.
-/
import Derived.Test.YtbppahmcjifflaaDoorVcb
namespace Go.Proofs.YtbppahmcjifflaaDoor
open Go.RowKit Go.Lib Go.Maps

set_option maxHeartbeats 2000000 in
set_option maxRecDepth 100000 in
theorem refDot_any (p q : Nat → Prop) (a b : Value) (zs ys : List Int) (w : World) (ha : Rk .i8 p w a zs) (hb : Rk .i8 q w b ys) :
    Calls Tryd.prog 52 #[a, b] w fun e w' => e = .returned (.tuple #[zV (dV zs ys), zV (dE zs ys)]) ∧ ∃ n, w' = w.drewN n := by
  by_cases h1 : 1048576 < zs.length
  · have HE : Hid (dE zs ys = 81 ∧ dV zs ys = 0) := ⟨dE_many (.inl h1), dV_bad (by rw [dE_many (.inl h1)]; omega)⟩
    obtain ⟨ao, ac, rfl, _⟩ := ha.shape
    obtain ⟨bo, bc, rfl, _⟩ := hb.shape
    have h1' : (1048576 : Int) < (zs.length : Int) := by omega
    clear ha hb
    go_enter Tryd.func52, Tryd.ntmps52
    go_wp2
    go_ret2
    exact ⟨by rw [HE.out.1, HE.out.2]; rfl, 0, rfl⟩
  have h1' : ¬ (1048576 : Int) < (zs.length : Int) := by omega
  by_cases h2 : 1048576 < ys.length
  · have HE : Hid (dE zs ys = 81 ∧ dV zs ys = 0) := ⟨dE_many (.inr h2), dV_bad (by rw [dE_many (.inr h2)]; omega)⟩
    obtain ⟨ao, ac, rfl, _⟩ := ha.shape
    obtain ⟨bo, bc, rfl, _⟩ := hb.shape
    have h2' : (1048576 : Int) < (ys.length : Int) := by omega
    clear ha hb
    go_enter Tryd.func52, Tryd.ntmps52
    go_wp2
    go_ret2
    exact ⟨by rw [HE.out.1, HE.out.2]; rfl, 0, rfl⟩
  have h2' : ¬ (1048576 : Int) < (ys.length : Int) := by omega
  by_cases h3 : zs.length = ys.length
  · have HE : Hid (dE zs ys = 0 ∧ dV zs ys = dotN zs ys) := ⟨dE_ok (by omega) h3, dV_ok (dE_ok (by omega) h3)⟩
    have HB : Hid (∀ j, _) := take8 ha.all hb.all (by omega : zs.length ≤ 1048576)
    have H8 : Hid (∀ j, C8 (zs.getD j 0) ∧ C8 (ys.getD j 0)) := fun j => ⟨ha.get j, hb.get j⟩
    obtain ⟨ao, ac, rfl, _⟩ := ha.shape
    obtain ⟨bo, bc, rfl, _⟩ := hb.shape
    obtain ⟨n, hn⟩ : ∃ n, zs.length = n := ⟨_, rfl⟩
    rw [← h3] at hb
    rw [hn] at ha hb h1 h1'
    obtain ⟨_, _, _, hca⟩ := ha.cells
    obtain ⟨_, _, _, hcb⟩ := hb.cells
    have HT : Hid (∀ j, j < n → dotN (zs.take (j + 1)) (ys.take (j + 1)) = dotN (zs.take j) (ys.take j) + zs.getD j 0 * ys.getD j 0) := fun j hj => dotN_take (by omega) (by omega)
    have HX : Hid (zs.take n = zs ∧ ys.take n = ys) := ⟨List.take_of_length_le (by omega), List.take_of_length_le (by omega)⟩
    rw [hn, show ys.length = n by omega, HE.out.1, HE.out.2]
    rw [show ys.length = n by omega] at h2'
    clear ha hb hn h3 h2 HE
    go_enter Tryd.func52, Tryd.ntmps52
    go_wp2
    go_loopw [6, 23] (fun s i wr => ∃ j : Nat, j ≤ n ∧ i = zV j ∧ s = zV (dotN (zs.take j) (ys.take j)) ∧ ∃ d, wr = w.drewN d) (fun _ i _ => n - (RowKit.intOf i).toNat)
    case atStart => exact ⟨0, Nat.zero_le _, rfl, by simp [dotN], 0, rfl⟩
    case round =>
      obtain ⟨j, hj, rfl, rfl, d, rfl⟩ := hrel
      by_cases hlt : j < n
      · obtain ⟨ab, aoff, rfl, _, _, k1⟩ := hca (by omega)
        obtain ⟨bb, boff, rfl, _, _, k2⟩ := hcb (by omega)
        have g1 := k1 j hlt
        have g2 := k2 j hlt
        clear k1 k2
        have hlt' : (j : Int) < (n : Int) := by omega
        have HT1 : Hid _ := HT.out j hlt
        have hm8 := mul8 (H8.out j).1 (H8.out j).2
        obtain ⟨⟨x0, x1⟩, y0, y1⟩ := H8.out j
        obtain ⟨s0, s1⟩ := HB.out j
        clear hca hcb
        generalize zs.getD j 0 = x at *
        generalize ys.getD j 0 = y at *
        generalize dotN (zs.take j) (ys.take j) = S at *
        obtain ⟨P, hP⟩ : ∃ P, x * y = P := ⟨_, rfl⟩
        rw [hP] at hm8 HT1
        obtain ⟨m0, m1⟩ := hm8
        go_wp2_with fail
        go_quiet (fail)
        go_wp2
        go_roundw
        case rel => exact ⟨j + 1, hlt, by go_num, by rw [HT1.out], d + nq, rfl⟩
        case measure => simp [RowKit.intOf]; omega
      · obtain rfl : j = n := by omega
        clear hca hcb
        rw [HX.out.1, HX.out.2]
        go_wp2
        go_ret2
        exact ⟨rfl, d, rfl⟩
  · have HE : Hid (dE zs ys = 80 ∧ dV zs ys = 0) := ⟨dE_else (by omega) (by omega) h3, dV_bad (by rw [dE_else (by omega) (by omega) h3]; omega)⟩
    obtain ⟨ao, ac, rfl, _⟩ := ha.shape
    obtain ⟨bo, bc, rfl, _⟩ := hb.shape
    have h3' : ¬ (zs.length : Int) = (ys.length : Int) := by omega
    clear ha hb
    go_enter Tryd.func52, Tryd.ntmps52
    go_wp2
    go_ret2
    exact ⟨by rw [HE.out.1, HE.out.2]; rfl, 0, rfl⟩

set_option maxHeartbeats 1000000 in
theorem rowsOf_any (ao : Option Addr) (cap : Nat) (zs : List Int) (c : Int) (w : World) :
    Calls Tryd.prog 63 #[.slice ao zs.length cap, zV c] w fun e w' => e = .returned (.tuple #[zV (mR zs c), zV (mE zs c)]) ∧ w' = w := by
  have hB := bounded8_any ao zs.length cap w
  rcases m_cases zs c with h | ⟨h, h1⟩ | ⟨h, k, rfl, h1, h2, h3⟩ | ⟨h, k, R, rfl, h1, h2⟩
  · rw [bE_many h] at hB
    have HB : Hid (Unit → _) := fun (_ : Unit) => hB
    rw [mR_bad (by rw [mE_many c h]; omega), mE_many c h]
    clear hB
    go_enter Tryd.func63, Tryd.ntmps63
    go_wp2_with fail
    refine (HB.out ()).mono ?_
    rintro e w1 ⟨rfl, rfl⟩
    go_wp2
    go_ret2
    exact ⟨rfl, rfl⟩
  · rw [bE_ok h] at hB
    have HB : Hid (Unit → _) := fun (_ : Unit) => hB
    rw [mR_bad (by rw [mE_low h h1]; omega), mE_low h h1]
    clear hB
    go_enter Tryd.func63, Tryd.ntmps63
    go_wp2_with fail
    refine (HB.out ()).mono ?_
    rintro e w1 ⟨rfl, rfl⟩
    go_wp2
    go_ret2
    exact ⟨rfl, rfl⟩
  · rw [bE_ok h] at hB
    have HB : Hid (Unit → _) := fun (_ : Unit) => hB
    rw [mR_bad (by rw [mE_rest h h2]; omega), mE_rest h h2]
    have h4 : ¬ (k : Int) < 1 := by omega
    have h5 : ¬ (k : Int) = 0 := by omega
    have h2b : ((zs.length : Int) % k != 0) = true := bne_iff_ne.2 h2
    clear hB h3
    go_enter Tryd.func63, Tryd.ntmps63
    go_wp2_with fail
    refine (HB.out ()).mono ?_
    rintro e w1 ⟨rfl, rfl⟩
    go_wp2
    go_ret2
    exact ⟨rfl, rfl⟩
  · rw [bE_ok h] at hB
    have HB : Hid (Unit → _) := fun (_ : Unit) => hB
    obtain ⟨e1, e2⟩ := mE_ok h h1 h2
    rw [e1, e2]
    have h4 : ¬ (k : Int) < 1 := by omega
    have h5 : ¬ (k : Int) = 0 := by omega
    have h6 : (zs.length : Int) % k = 0 := by rw [h2, Int.natCast_mul]; exact Int.mul_emod_left _ _
    have h7 : (zs.length : Int) / k = R := by rw [h2, Int.natCast_mul]; exact Int.mul_ediv_cancel _ h5
    have h8 : R ≤ zs.length := by rw [h2]; exact Nat.le_mul_of_pos_right _ h1
    clear hB e1 e2 h2
    go_enter Tryd.func63, Tryd.ntmps63
    go_wp2_with fail
    refine (HB.out ()).mono ?_
    rintro e w1 ⟨rfl, rfl⟩
    go_wp2
    go_ret2
    exact ⟨rfl, rfl⟩

set_option maxHeartbeats 1000000 in
theorem Matrix_any (ao : Option Addr) (cap : Nat) (zs : List Int) (c : Int) (w : World) :
    Calls Tryd.prog 51 #[.slice ao zs.length cap, zV c] w fun e w' => e = .returned (zV (mE zs c)) ∧ w' = w := by
  rcases m_cases zs c with h | ⟨h, h1⟩ | ⟨h, k, rfl, h1, h2, h3⟩ | ⟨h, k, R, rfl, h1, h2⟩
  · rw [mE_many c h]
    have h' : (1048576 : Int) < (zs.length : Int) := by omega
    go_enter Tryd.func51, Tryd.ntmps51
    go_wp2
    go_ret
    exact ⟨rfl, rfl⟩
  · rw [mE_low h h1]
    have h' : ¬ (1048576 : Int) < (zs.length : Int) := by omega
    go_enter Tryd.func51, Tryd.ntmps51
    go_wp2
    go_ret
    exact ⟨rfl, rfl⟩
  · rw [mE_rest h h2]
    have h' : ¬ (1048576 : Int) < (zs.length : Int) := by omega
    have h4 : ¬ (k : Int) < 1 := by omega
    have h5 : ¬ (k : Int) = 0 := by omega
    have h2b : ((zs.length : Int) % k != 0) = true := bne_iff_ne.2 h2
    clear h3
    go_enter Tryd.func51, Tryd.ntmps51
    go_wp2
    go_ret
    exact ⟨rfl, rfl⟩
  · obtain ⟨e1, e2⟩ := mE_ok h h1 h2
    rw [e1]
    have h' : ¬ (1048576 : Int) < (zs.length : Int) := by omega
    have h4 : ¬ (k : Int) < 1 := by omega
    have h5 : ¬ (k : Int) = 0 := by omega
    have h6 : (zs.length : Int) % k = 0 := by rw [h2, Int.natCast_mul]; exact Int.mul_emod_left _ _
    clear e1 e2 h2
    go_enter Tryd.func51, Tryd.ntmps51
    go_wp2
    go_ret
    exact ⟨rfl, rfl⟩
end Go.Proofs.YtbppahmcjifflaaDoor
