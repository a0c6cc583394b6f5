/-
  Sines, the package's and the document's; what is rounded; one pair turned.
-/
import Derived.Test.YtkemaofclahaiaaDoorRpN
import Derived.Test.YtkemaofclahaiaaDoorGvs
namespace Go.Proofs.YtkemaofclahaiaaDoor
open Go.RowKit Go.Lib Go.Maps

/-- The variable holds the sines of a quarter. -/
def Sin (W : World) : Prop := ∀ i, i < 65 → W.cell? ⟨0, i, none⟩ = some (.int .i8 (sT.getD i 0))
theorem Sin.fresh {w W : World} (h : Sin w) (hF : Fresh w W) : Sin W := fun i hi => by
  have hb : 0 < w.heap.size := by have := World.block_lt_of_cell? w _ (h 0 (by decide)); simpa using this
  exact (hF.cell (p := ⟨0, i, none⟩) hb (fun e => e)).trans (h i hi)
theorem Sin.drewN {w : World} (h : Sin w) (n : Nat) : Sin (w.drewN n) := h

set_option maxHeartbeats 400000 in
theorem firstHalf_any (r : Nat) (w : World) (hS : Sin w) (hr : r ≤ 128) :
    Calls Tryd.prog 25 #[zV r] w fun e w' => e = .returned (.int .i8 (sT.getD (min r (128 - r)) 0)) ∧ w' = w := by
  by_cases h : r ≤ 64
  · rw [Nat.min_eq_left (by omega)]
    have g := hS r (by omega)
    generalize sT.getD r 0 = z at *
    go_enter Tryd.func25, Tryd.ntmps25
    go_wp2
    go_ret
    exact ⟨rfl, rfl⟩
  · rw [Nat.min_eq_right (by omega)]
    have g := hS (128 - r) (by omega)
    obtain ⟨q, hq⟩ : ∃ q, 128 - r = q := ⟨_, rfl⟩
    obtain rfl : r = 128 - q := by omega
    rw [hq] at g ⊢
    generalize sT.getD q 0 = z at *
    go_enter Tryd.func25, Tryd.ntmps25
    go_wp2
    go_ret
    exact ⟨rfl, rfl⟩

theorem rem_256 (a : Int) : (a.tmod 256 + 256).tmod 256 = a % 256 := by
  obtain ⟨f1, f2⟩ := tdiv_floor a 256 (by decide)
  have hb := tmod_bounds a 256 (by decide)
  rw [Int.tmod_eq_emod_of_nonneg (by omega)]
  rcases Int.lt_or_le (a.tmod 256) 0 with h | h
  · have := (f1 h).2; omega
  · have := (f2 h).2; omega

set_option maxHeartbeats 400000 in
set_option maxRecDepth 100000 in
theorem Sine_any (a : Int) (w : World) (hS : Sin w) :
    Calls Tryd.prog 15 #[zV a] w fun e w' => e = .returned (.int .i8 (sn a)) ∧ w' = w := by
  have hb := tmod_bounds a 256 (by decide)
  have hq := rem_256 a
  obtain ⟨r, hr⟩ : ∃ r : Nat, a % 256 = r := ⟨(a % 256).toNat, by omega⟩
  rw [hr] at hq
  have hr2 : r < 256 := by omega
  by_cases h : r < 128
  · have H : Hid (Unit → _) := fun (_ : Unit) => firstHalf_any r w hS (by omega)
    rw [← sn_half hr h] at H
    clear hS hr
    go_enter Tryd.func15, Tryd.ntmps15
    go_wp2_with fail
    refine (H.out ()).mono ?_
    rintro e w1 ⟨rfl, rfl⟩
    go_wp2
    go_ret
    exact ⟨rfl, rfl⟩
  · obtain ⟨q, rfl⟩ : ∃ q, r = q + 128 := ⟨r - 128, by omega⟩
    have H : Hid (Unit → _) := fun (_ : Unit) => firstHalf_any q w hS (by omega)
    have e := sn_rest hr
    have hz := sT_in (min q (128 - q)) (by omega)
    rw [e]
    generalize sT.getD (min q (128 - q)) 0 = z at *
    clear hS hr e
    obtain ⟨u, hu⟩ : ∃ u : Int, ((q + 128 : Nat) : Int) = u := ⟨_, rfl⟩
    rw [hu] at hq
    have hu1 : (q : Int) = u - 128 := by omega
    have hu2 : 128 ≤ u ∧ u < 256 := by omega
    rw [hu1] at H
    clear hu hu1 h
    go_enter Tryd.func15, Tryd.ntmps15
    go_wp2_with fail
    refine (H.out ()).mono ?_
    rintro e w1 ⟨rfl, rfl⟩
    go_wp2
    go_ret
    exact ⟨rfl, rfl⟩

set_option maxHeartbeats 400000 in
theorem rounded_any (x : Int) (w : World) (hx : I64 x) :
    Calls Tryd.prog 31 #[zV x] w fun e w' => e = .returned (.int .i8 (rnd x)) ∧ Drew w w' := by
  have H : Hid (∀ W, _) := fun W => round_ok x 6 W hx (by omega)
  have H2 : Hid (∀ W, _) := fun W => narrow_any (near x (2 ^ 6)) W
  clear hx
  go_enter Tryd.func31, Tryd.ntmps31
  go_wp2_with fail
  refine (H.out _).mono ?_
  rintro e w1 ⟨rfl, d1⟩
  go_wp2_with fail
  refine (H2.out _).mono ?_
  rintro e w2 ⟨rfl, d2⟩
  have hd := d1.trans d2
  go_wp2
  go_ret
  exact ⟨rfl, hd⟩

theorem sum_i64 {a b c s : Int} (ha : C8 a) (hb : C8 b) (hc : C8 c) (hs : C8 s) : -32768 ≤ a * c - b * s ∧ a * c - b * s ≤ 32768 ∧ -32768 ≤ a * c + b * s ∧ a * c + b * s ≤ 32768 := by
  have h1 := mul8 ha hc
  have h2 := mul8 hb hs
  omega
theorem headed_any (n : Int) (w : World) (hn : I64 n) : Calls Tryd.prog 30 #[zV n] w fun e w' => e = .returned (.bool (decide (2 ≤ n) && decide (n % 2 = 0))) ∧ w' = w := by
  obtain ⟨n0, n1⟩ := hn
  by_cases h : 2 ≤ n
  · have ht : n.tmod 2 = n % 2 := Int.tmod_eq_emod_of_nonneg (by omega)
    have hr : n % 2 = 0 ∨ n % 2 = 1 := by omega
    rw [show decide (2 ≤ n) = true by simp [h], Bool.true_and]
    generalize n % 2 = r at *
    go_enter Tryd.func30, Tryd.ntmps30
    go_wp2
    go_ret
    exact ⟨by rcases hr with rfl | rfl <;> rfl, rfl⟩
  · rw [show decide (2 ≤ n) = false by simp; omega, Bool.false_and]
    go_enter Tryd.func30, Tryd.ntmps30
    go_wp2
    go_ret
    exact ⟨rfl, rfl⟩
end Go.Proofs.YtkemaofclahaiaaDoor
