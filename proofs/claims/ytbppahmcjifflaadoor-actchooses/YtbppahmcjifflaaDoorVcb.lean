/-
  What is wrong with lists and matrices; the product of two rows, the package's and the document's.
-/
import Derived.Test.YtbppahmcjifflaaDoorGvs
namespace Go.Proofs.YtbppahmcjifflaaDoor
open Go.RowKit Go.Lib Go.Maps

/-- What is wrong with a list's length. -/
def bE (n : Nat) : Int := if 1048576 < n then 81 else 0
theorem bE_many {n : Nat} (h : 1048576 < n) : bE n = 81 := if_pos h
theorem bE_ok {n : Nat} (h : n ≤ 1048576) : bE n = 0 := if_neg (by omega)

theorem bounded8_any (ao : Option Addr) (n c : Nat) (w : World) : Calls Tryd.prog 75 #[.slice ao n c] w fun e w' => e = .returned (zV (bE n)) ∧ w' = w := by
  by_cases h : 1048576 < n
  · have h' : (1048576 : Int) < (n : Int) := by omega
    rw [bE_many h]
    go_enter Tryd.func75, Tryd.ntmps75
    go_wp2
    go_ret
    exact ⟨rfl, rfl⟩
  · have h' : ¬ (1048576 : Int) < (n : Int) := by omega
    rw [bE_ok (by omega)]
    go_enter Tryd.func75, Tryd.ntmps75
    go_wp2
    go_ret
    exact ⟨rfl, rfl⟩

/-- What is wrong with two lengths. -/
def aE (n m : Nat) : Int := if 1048576 < n ∨ 1048576 < m then 81 else if n ≠ m then 80 else 0
theorem dE_aE (a b : List Int) : dE a b = aE a.length b.length := rfl

theorem take8 {zs ys : List Int} (hz : ∀ z ∈ zs, C8 z) (hy : ∀ z ∈ ys, C8 z) (hl : zs.length ≤ 1048576) (j : Nat) : -17179869184 ≤ dotN (zs.take j) (ys.take j) ∧ dotN (zs.take j) (ys.take j) ≤ 17179869184 := by
  have h := dotN_bound (zs.take j) (ys.take j) (fun z h => hz z (List.mem_of_mem_take h)) (fun z h => hy z (List.mem_of_mem_take h))
  have : (zs.take j).length ≤ 1048576 := by rw [List.length_take]; omega
  omega
set_option maxHeartbeats 2000000 in
set_option maxRecDepth 100000 in
theorem dot_any (p q : Nat → Prop) (a b : Value) (zs ys : List Int) (w : World) (ha : Rk .i8 p w a zs) (hb : Rk .i8 q w b ys) (hl : zs.length = ys.length) (hm : zs.length ≤ 1048576) :
    Calls Tryd.prog 76 #[a, b] w fun e w' => e = .returned (zV (dotN zs ys)) ∧ w' = w := by
  have HB : Hid (∀ j, _) := take8 ha.all hb.all hm
  have H8 : Hid (∀ j, C8 (zs.getD j 0) ∧ C8 (ys.getD j 0)) := fun j => ⟨ha.get j, hb.get j⟩
  obtain ⟨ao, ac, rfl, _⟩ := ha.shape
  obtain ⟨bo, bc, rfl, _⟩ := hb.shape
  obtain ⟨n, hn⟩ : ∃ n, zs.length = n := ⟨_, rfl⟩
  rw [← hl] at hb
  rw [hn] at ha hb hm
  obtain ⟨_, _, _, hca⟩ := ha.cells
  obtain ⟨_, _, _, hcb⟩ := hb.cells
  have HT : Hid (∀ j, j < n → dotN (zs.take (j + 1)) (ys.take (j + 1)) = dotN (zs.take j) (ys.take j) + zs.getD j 0 * ys.getD j 0) := fun j hj => dotN_take (by omega) (by omega)
  have HE : Hid (zs.take n = zs ∧ ys.take n = ys) := ⟨List.take_of_length_le (by omega), List.take_of_length_le (by omega)⟩
  rw [hn, show ys.length = n by omega]
  clear ha hb hn hl
  go_enter Tryd.func76, Tryd.ntmps76
  go_wp2
  go_loopw [5, 10] (fun s i wr => ∃ j : Nat, j ≤ n ∧ i = zV j ∧ s = zV (dotN (zs.take j) (ys.take j)) ∧ wr = w) (fun _ i _ => n - (RowKit.intOf i).toNat)
  case atStart => exact ⟨0, Nat.zero_le _, rfl, by simp [dotN], rfl⟩
  case round =>
    obtain ⟨j, hj, rfl, rfl, rfl⟩ := hrel
    by_cases hlt : j < n
    · obtain ⟨ab, aoff, rfl, _, _, h1⟩ := hca (by omega)
      obtain ⟨bb, boff, rfl, _, _, h2⟩ := hcb (by omega)
      have g1 := h1 j hlt
      have g2 := h2 j hlt
      have hlt' : (j : Int) < (n : Int) := by omega
      have HT1 : Hid _ := HT.out j hlt
      have hm8 := mul8 (H8.out j).1 (H8.out j).2
      obtain ⟨⟨x0, x1⟩, y0, y1⟩ := H8.out j
      obtain ⟨s0, s1⟩ := HB.out j
      clear h1 h2 hca hcb
      generalize zs.getD j 0 = x at *
      generalize ys.getD j 0 = y at *
      generalize dotN (zs.take j) (ys.take j) = S at *
      obtain ⟨P, hP⟩ : ∃ P, x * y = P := ⟨_, rfl⟩
      rw [hP] at hm8 HT1
      obtain ⟨m0, m1⟩ := hm8
      go_wp2
      go_roundw
      case rel => exact ⟨j + 1, hlt, by go_num, by rw [HT1.out], trivial⟩
      case measure => simp [RowKit.intOf]; omega
    · obtain rfl : j = n := by omega
      clear hca hcb
      rw [HE.out.1, HE.out.2]
      go_wp2
      go_ret
      exact ⟨rfl, rfl⟩
end Go.Proofs.YtbppahmcjifflaaDoor
