/-
  Exp2, the document's.
-/
import Derived.Test.YtbppahmcjifflaaDoorSfe
import Derived.Test.YtbppahmcjifflaaDoorFwg
namespace Go.Proofs.YtbppahmcjifflaaDoor
open Go.RowKit

set_option maxHeartbeats 800000 in
theorem refExp2_far (x : Int) (w : World) (hx : I64 x) (hn : x ≤ 0) (hf : 31 ≤ -(x / 65536)) :
    Calls Tryd.prog 37 #[.int .i64 x] w fun e w' => e = .returned (.int .i64 0) ∧ Drew w w' := by
  obtain ⟨x0, x1⟩ := hx
  have t0 : 0 ≤ x % 65536 := by omega
  have t1 : x % 65536 ≤ 65535 := by omega
  obtain ⟨a0, a1⟩ := polyA_bound t0 t1
  obtain ⟨m0, m1⟩ := mul_bound a0 a1 t0 t1
  obtain ⟨b0, b1⟩ := polyB_bound t0 t1
  obtain ⟨k0, k1⟩ := mul_bound b0 b1 t0 t1
  unfold polyB at b0 b1 k0 k1
  unfold polyA at a0 a1 m0 m1 b0 b1 k0 k1
  go_enter Tryd.func37, Tryd.ntmps37
  go_wp2_with fail
  refine (refFloor_ok x 65536 _ ⟨x0, x1⟩ (by omega) (by omega)).mono ?_
  rintro e w1 ⟨rfl, hw1⟩
  go_wp2
  go_ret
  exact ⟨rfl, hw1⟩

theorem half_powR (c : Int) (j : Nat) : c / 2 ^ j / 2 = c / 2 ^ (j + 1) := by
  rw [Int.ediv_ediv_of_nonneg (by exact Int.le_of_lt (Int.pow_pos (by omega))), Int.pow_succ]

set_option maxHeartbeats 800000 in
theorem refExp2_near (x y : Int) (n : Nat) (t : Int) (w : World) (hx : I64 x) (hy : y = min x 0) (hq : y / 65536 = -(n : Int)) (hn' : n < 31) (ht : y % 65536 = t) :
    Calls Tryd.prog 37 #[.int .i64 x] w fun e w' => e = .returned (.int .i64 (polyC t / 2 ^ n)) ∧ Drew w w' := by
  obtain ⟨x0, x1⟩ := hx
  have t0 : 0 ≤ t := by omega
  have t1 : t ≤ 65535 := by omega
  obtain ⟨c0, c1⟩ := polyC_bound t0 t1
  obtain ⟨a0, a1⟩ := polyA_bound t0 t1
  obtain ⟨m0, m1⟩ := mul_bound a0 a1 t0 t1
  obtain ⟨b0, b1⟩ := polyB_bound t0 t1
  obtain ⟨k0, k1⟩ := mul_bound b0 b1 t0 t1
  have ea : 241400000 + 84941200 * t / 65536 = polyA t := rfl
  have eb : 747400624 + polyA t * t / 65536 = polyB t := rfl
  have ec : 1073741824 + polyB t * t / 65536 = polyC t := rfl
  have hf := fun w => refFloor_ok y 65536 w ⟨by omega, by omega⟩ (by omega) (by omega)
  rw [hq, ht] at hf
  generalize polyA t = A at *
  generalize polyB t = B at *
  generalize polyC t = C at *
  rcases Int.lt_or_le 0 x with h | h
  · obtain rfl : y = 0 := by omega
    clear hy hq ht
    go_enter Tryd.func37, Tryd.ntmps37
    go_wp2_with fail
    refine (hf _).mono ?_
    rintro e w1 ⟨rfl, hw1⟩
    have HK : Hid (Drew w w1) := hw1
    clear hw1
    go_wp2
    go_loop [9, 10] (fun c i => ∃ j : Nat, j ≤ n ∧ i = .int .i64 j ∧ c = .int .i64 (C / 2 ^ j)) (fun _ i => n - (intOf i).toNat)
    case atStart => exact ⟨0, by omega, rfl, by rw [show (2 : Int) ^ 0 = 1 from rfl, Int.ediv_one]⟩
    case round =>
      obtain ⟨j, hj, rfl, rfl⟩ := hrel
      by_cases hlt : j < n
      · have HE : Hid (C / 2 ^ j / 2 = C / 2 ^ (j + 1)) := half_powR C j
        have hpos : 0 ≤ C / 2 ^ j := Int.ediv_nonneg (by omega) (Int.le_of_lt (Int.pow_pos (by omega)))
        have hle : C / 2 ^ j ≤ C := Int.ediv_le_self _ (by omega)
        generalize C / 2 ^ j = D at *
        go_wp2
        go_round
        case rel => exact ⟨j + 1, by omega, by go_num, by rw [← HE.out]⟩
        case measure => simp [intOf]; omega
      · obtain rfl : j = n := by omega
        go_wp2
        go_ret
        exact ⟨rfl, HK.out⟩
  · obtain rfl : y = x := by omega
    clear hy hq ht
    go_enter Tryd.func37, Tryd.ntmps37
    go_wp2_with fail
    refine (hf _).mono ?_
    rintro e w1 ⟨rfl, hw1⟩
    have HK : Hid (Drew w w1) := hw1
    clear hw1
    go_wp2
    go_loop [9, 10] (fun c i => ∃ j : Nat, j ≤ n ∧ i = .int .i64 j ∧ c = .int .i64 (C / 2 ^ j)) (fun _ i => n - (intOf i).toNat)
    case atStart => exact ⟨0, by omega, rfl, by rw [show (2 : Int) ^ 0 = 1 from rfl, Int.ediv_one]⟩
    case round =>
      obtain ⟨j, hj, rfl, rfl⟩ := hrel
      by_cases hlt : j < n
      · have HE : Hid (C / 2 ^ j / 2 = C / 2 ^ (j + 1)) := half_powR C j
        have hpos : 0 ≤ C / 2 ^ j := Int.ediv_nonneg (by omega) (Int.le_of_lt (Int.pow_pos (by omega)))
        have hle : C / 2 ^ j ≤ C := Int.ediv_le_self _ (by omega)
        generalize C / 2 ^ j = D at *
        go_wp2
        go_round
        case rel => exact ⟨j + 1, by omega, by go_num, by rw [← HE.out]⟩
        case measure => simp [intOf]; omega
      · obtain rfl : j = n := by omega
        go_wp2
        go_ret
        exact ⟨rfl, HK.out⟩

theorem refExp2_any (x : Int) (w : World) (hx : I64 x) :
    Calls Tryd.prog 37 #[.int .i64 x] w fun e w' => e = .returned (.int .i64 (exp2 x)) ∧ Drew w w' := by
  unfold exp2
  by_cases hf : 31 ≤ -(min x 0 / 65536)
  · rw [if_pos hf]
    exact refExp2_far x w hx (by omega) (by rw [show min x 0 = x by omega] at hf; exact hf)
  · rw [if_neg hf]
    have hq : min x 0 / 65536 = -(((-(min x 0 / 65536)).toNat : Nat) : Int) := by omega
    exact refExp2_near x _ _ _ w hx rfl hq (by omega) rfl

end Go.Proofs.YtbppahmcjifflaaDoor
