/-
  For all int64 x and d and every int shift the statement FixedNearest answers true: awake does, Near lies within half of the divisor, even where it is just half, it is odd about 0, and Round is Near of a power; its card, tied to the program's text.
-/
import Derived.Test.YtohimhojieeloabDoorLay
namespace Go.Proofs.YtohimhojieeloabDoor.Nearest
open Go.ChangeShapes Go.WideShapes Go.ChangeAt Go.RowKit

theorem near_spec (x d : Int) : (near x d = x / d ∧ x % d < d - x % d) ∨ (near x d = x / d ∧ d = x % d + x % d ∧ x / d % 2 = 0) ∨ (near x d = x / d + 1 ∧ d - x % d < x % d) ∨ (near x d = x / d + 1 ∧ d = x % d + x % d ∧ ¬ x / d % 2 = 0) := by
  unfold near
  split <;> omega

theorem near_neg (x d : Int) (hd : 1 ≤ d) : near (-x) d = -near x d := by
  have e := Int.mul_ediv_add_emod x d
  have r0 : 0 ≤ x % d := Int.emod_nonneg _ (by omega)
  have r1 : x % d < d := Int.emod_lt_of_pos _ (by omega)
  have key : ∀ q r : Int, r + d * q = -x → 0 ≤ r → r < d → (-x) / d = q ∧ (-x) % d = r := fun q r h h0 h1 =>
    (Int.ediv_emod_unique (a := -x) (b := d) (r := r) (q := q) (by omega)).2 ⟨h, h0, h1⟩
  by_cases hr : x % d = 0
  · obtain ⟨k1, k2⟩ := key (-(x / d)) 0 (by rw [Int.mul_neg]; omega) (by omega) (by omega)
    unfold near
    rw [k1, k2, hr, if_neg (by omega), if_neg (by omega)]
  · obtain ⟨k1, k2⟩ := key (-(x / d) - 1) (d - x % d) (by rw [Int.mul_sub, Int.mul_neg]; omega) (by omega) (by omega)
    unfold near
    rw [k1, k2]
    generalize x / d = q at *
    generalize x % d = r at *
    by_cases h1 : d - r < r
    · rw [if_neg (by omega), if_pos (by omega)]; omega
    · by_cases h2 : r < d - r
      · rw [if_pos (by omega), if_neg (by omega)]; omega
      · by_cases h3 : q % 2 = 0
        · rw [if_pos (by omega), if_neg (by omega)]; omega
        · rw [if_neg (by omega), if_pos (by omega)]; omega

theorem near_bound (x d : Int) (hx : I64 x) (hd : 1 ≤ d) : -9223372036854775808 ≤ near x d ∧ near x d ≤ 9223372036854775807 := by
  have hb := ediv_bounds x d hd hx.1 hx.2
  have hh := fun h => ediv_half x d hx h
  have r0 : 0 ≤ x % d := Int.emod_nonneg _ (by omega)
  rcases near_spec x d with ⟨e, h⟩ | ⟨e, h, _⟩ | ⟨e, h⟩ | ⟨e, h, _⟩
  · omega
  · omega
  · have := hh (by have := Int.emod_lt_of_pos x (show 0 < d by omega); omega); omega
  · have := hh (by have := Int.emod_lt_of_pos x (show 0 < d by omega); omega); omega

set_option maxRecDepth 100000 in
set_option maxHeartbeats 16000000 in
theorem walk_ok (x d s : Int) (w : World) (hB : Bend w) (hx : I64 x) (hd : I64 d) (hd1 : 1 ≤ d) :
    Calls Tryd.prog 3 #[.int .i64 x, .int .i64 d, .int .i64 s] w fun e w' => e = .returned (.bool true) ∧ Fresh w w' := by
  have r0 : 0 ≤ x % d := Int.emod_nonneg _ (by omega)
  have r1 : x % d < d := Int.emod_lt_of_pos _ (by omega)
  have hspec := near_spec x d
  have hb := near_bound x d hx hd1
  have hfb := ediv_bounds x d hd1 hx.1 hx.2
  have hN := fun w => near_ok x d w hx hd1 hd.2
  have hF := fun w => floor_ok x d w hx hd1 hd.2
  have hM := fun (h : -9223372036854775808 < x) w => near_ok (-x) d w ⟨by have := hx.2; omega, by omega⟩ hd1 hd.2
  have hbM := fun (h : -9223372036854775808 < x) => near_bound (-x) d ⟨by have := hx.2; omega, by omega⟩ hd1
  rw [near_neg x d hd1] at hM hbM
  have ht := tmod_two_ne (near x d)
  obtain ⟨x0, x1⟩ := hx
  obtain ⟨d0, d1⟩ := hd
  generalize near x d = q at *
  generalize x / d = f at *
  generalize x % d = r at *
  obtain ⟨m, rfl⟩ : ∃ m, d = r + m := ⟨d - r, by omega⟩
  have hm1 : r + m - r = m := by omega
  have hR := fun w => round_any x s w ⟨x0, x1⟩
  go_enter Tryd.func3, Tryd.ntmps3
  go_wp2_with fail
  refine (awake_any _ hB).mono ?_
  rintro e w1 ⟨rfl, h1⟩
  go_wp2_with fail
  refine (hN _).mono ?_
  rintro e w2 ⟨rfl, h2⟩
  go_wp2_with fail
  refine (hF _).mono ?_
  rintro e w3 ⟨rfl, h3⟩
  have HK : Hid (Fresh w w3) := h1.trans (h2.trans h3).fresh (fun _ _ e => e)
  clear h1 h2 h3 hB hN hF
  by_cases hl : -9223372036854775808 < x
  · have hM' := hM hl
    have hbM' := (hbM hl).2
    clear hM hbM
    rcases hspec with ⟨hqf, h⟩ | ⟨hqf, hm, h⟩ | ⟨rfl, h⟩ | ⟨rfl, hm, h⟩
    · clear ht
      have hne : (r == m) = false := by simp; omega
      have h : r < m := by omega
      have hup : (q != f) = false := by simp [hqf]
      have hq1 : q ≤ f := by omega
      have hq2 : f ≤ q := by omega
      by_cases h9 : f = 9223372036854775807
      · obtain rfl : q = 9223372036854775807 := by omega
        subst h9
        clear hqf hq1 hq2 hup
        have hw9 : wrap64 9223372036854775808 = -9223372036854775808 := by simp [wrap64]
        go_wp2_with fail
        refine (hM' _).mono ?_
        rintro e w4 ⟨rfl, h4⟩
        go_wp2_with fail
        refine (hR _).mono ?_
        rintro e w5 ⟨rfl, h5⟩
        by_cases hs : s < 0 ∨ 62 < s
        · rw [show rdQ x s = 0 from if_pos hs, show rdE s = 20 from if_pos hs]
          by_cases hs' : s < 0
          · go_wp2
            go_ret
            exact ⟨rfl, HK.out.trans (h4.trans h5).fresh (fun _ _ e => e)⟩
          · have hs'' : 62 < s := by omega
            go_wp2
            go_ret
            exact ⟨rfl, HK.out.trans (h4.trans h5).fresh (fun _ _ e => e)⟩
        · rw [show rdQ x s = near x (2 ^ s.toNat) from if_neg hs, show rdE s = 0 from if_neg hs]
          obtain ⟨k, rfl⟩ : ∃ k : Nat, s = k := ⟨s.toNat, by omega⟩
          rw [Int.toNat_natCast]
          obtain ⟨p1, p2⟩ := pow62 k (by omega)
          have hQ := fun w => near_ok x (2 ^ k) w ⟨x0, x1⟩ p1 (by omega)
          generalize near x (2 ^ k) = v at *
          go_wp2_with fail
          refine (hQ _).mono ?_
          rintro e w6 ⟨rfl, h6⟩
          go_wp2
          go_ret
          exact ⟨rfl, HK.out.trans ((h4.trans h5).trans h6).fresh (fun _ _ e => e)⟩
      · clear hqf
        go_wp2_with fail
        refine (hM' _).mono ?_
        rintro e w4 ⟨rfl, h4⟩
        go_wp2_with fail
        refine (hR _).mono ?_
        rintro e w5 ⟨rfl, h5⟩
        by_cases hs : s < 0 ∨ 62 < s
        · rw [show rdQ x s = 0 from if_pos hs, show rdE s = 20 from if_pos hs]
          by_cases hs' : s < 0
          · go_wp2
            go_ret
            exact ⟨rfl, HK.out.trans (h4.trans h5).fresh (fun _ _ e => e)⟩
          · have hs'' : 62 < s := by omega
            go_wp2
            go_ret
            exact ⟨rfl, HK.out.trans (h4.trans h5).fresh (fun _ _ e => e)⟩
        · rw [show rdQ x s = near x (2 ^ s.toNat) from if_neg hs, show rdE s = 0 from if_neg hs]
          obtain ⟨k, rfl⟩ : ∃ k : Nat, s = k := ⟨s.toNat, by omega⟩
          rw [Int.toNat_natCast]
          obtain ⟨p1, p2⟩ := pow62 k (by omega)
          have hQ := fun w => near_ok x (2 ^ k) w ⟨x0, x1⟩ p1 (by omega)
          generalize near x (2 ^ k) = v at *
          go_wp2_with fail
          refine (hQ _).mono ?_
          rintro e w6 ⟨rfl, h6⟩
          go_wp2
          go_ret
          exact ⟨rfl, HK.out.trans ((h4.trans h5).trans h6).fresh (fun _ _ e => e)⟩
    · obtain rfl : m = r := by omega
      clear hm hm1
      rw [show (!decide (q % 2 = 0)) = false by simp [hqf, h]] at ht
      have h9 : f < 9223372036854775807 := by omega
      have hup : (q != f) = false := by simp [hqf]
      have hq1 : q ≤ f := by omega
      have hq2 : f ≤ q := by omega
      clear hqf h
      go_wp2_with fail
      refine (hM' _).mono ?_
      rintro e w4 ⟨rfl, h4⟩
      go_wp2_with fail
      refine (hR _).mono ?_
      rintro e w5 ⟨rfl, h5⟩
      by_cases hs : s < 0 ∨ 62 < s
      · rw [show rdQ x s = 0 from if_pos hs, show rdE s = 20 from if_pos hs]
        by_cases hs' : s < 0
        · go_wp2
          go_ret
          exact ⟨rfl, HK.out.trans (h4.trans h5).fresh (fun _ _ e => e)⟩
        · have hs'' : 62 < s := by omega
          go_wp2
          go_ret
          exact ⟨rfl, HK.out.trans (h4.trans h5).fresh (fun _ _ e => e)⟩
      · rw [show rdQ x s = near x (2 ^ s.toNat) from if_neg hs, show rdE s = 0 from if_neg hs]
        obtain ⟨k, rfl⟩ : ∃ k : Nat, s = k := ⟨s.toNat, by omega⟩
        rw [Int.toNat_natCast]
        obtain ⟨p1, p2⟩ := pow62 k (by omega)
        have hQ := fun w => near_ok x (2 ^ k) w ⟨x0, x1⟩ p1 (by omega)
        generalize near x (2 ^ k) = v at *
        go_wp2_with fail
        refine (hQ _).mono ?_
        rintro e w6 ⟨rfl, h6⟩
        go_wp2
        go_ret
        exact ⟨rfl, HK.out.trans ((h4.trans h5).trans h6).fresh (fun _ _ e => e)⟩
    · clear ht
      have hne : (r == m) = false := by simp; omega
      have h : m < r := by omega
      go_wp2_with fail
      refine (hM' _).mono ?_
      rintro e w4 ⟨rfl, h4⟩
      go_wp2_with fail
      refine (hR _).mono ?_
      rintro e w5 ⟨rfl, h5⟩
      by_cases hs : s < 0 ∨ 62 < s
      · rw [show rdQ x s = 0 from if_pos hs, show rdE s = 20 from if_pos hs]
        by_cases hs' : s < 0
        · go_wp2
          go_ret
          exact ⟨rfl, HK.out.trans (h4.trans h5).fresh (fun _ _ e => e)⟩
        · have hs'' : 62 < s := by omega
          go_wp2
          go_ret
          exact ⟨rfl, HK.out.trans (h4.trans h5).fresh (fun _ _ e => e)⟩
      · rw [show rdQ x s = near x (2 ^ s.toNat) from if_neg hs, show rdE s = 0 from if_neg hs]
        obtain ⟨k, rfl⟩ : ∃ k : Nat, s = k := ⟨s.toNat, by omega⟩
        rw [Int.toNat_natCast]
        obtain ⟨p1, p2⟩ := pow62 k (by omega)
        have hQ := fun w => near_ok x (2 ^ k) w ⟨x0, x1⟩ p1 (by omega)
        generalize near x (2 ^ k) = v at *
        go_wp2_with fail
        refine (hQ _).mono ?_
        rintro e w6 ⟨rfl, h6⟩
        go_wp2
        go_ret
        exact ⟨rfl, HK.out.trans ((h4.trans h5).trans h6).fresh (fun _ _ e => e)⟩
    · obtain rfl : m = r := by omega
      clear hm hm1
      rw [show (!decide ((f + 1) % 2 = 0)) = false by simp; omega] at ht
      go_wp2_with fail
      refine (hM' _).mono ?_
      rintro e w4 ⟨rfl, h4⟩
      go_wp2_with fail
      refine (hR _).mono ?_
      rintro e w5 ⟨rfl, h5⟩
      by_cases hs : s < 0 ∨ 62 < s
      · rw [show rdQ x s = 0 from if_pos hs, show rdE s = 20 from if_pos hs]
        by_cases hs' : s < 0
        · go_wp2
          go_ret
          exact ⟨rfl, HK.out.trans (h4.trans h5).fresh (fun _ _ e => e)⟩
        · have hs'' : 62 < s := by omega
          go_wp2
          go_ret
          exact ⟨rfl, HK.out.trans (h4.trans h5).fresh (fun _ _ e => e)⟩
      · rw [show rdQ x s = near x (2 ^ s.toNat) from if_neg hs, show rdE s = 0 from if_neg hs]
        obtain ⟨k, rfl⟩ : ∃ k : Nat, s = k := ⟨s.toNat, by omega⟩
        rw [Int.toNat_natCast]
        obtain ⟨p1, p2⟩ := pow62 k (by omega)
        have hQ := fun w => near_ok x (2 ^ k) w ⟨x0, x1⟩ p1 (by omega)
        generalize near x (2 ^ k) = v at *
        go_wp2_with fail
        refine (hQ _).mono ?_
        rintro e w6 ⟨rfl, h6⟩
        go_wp2
        go_ret
        exact ⟨rfl, HK.out.trans ((h4.trans h5).trans h6).fresh (fun _ _ e => e)⟩
  · clear hM hbM
    rcases hspec with ⟨hqf, h⟩ | ⟨hqf, hm, h⟩ | ⟨rfl, h⟩ | ⟨rfl, hm, h⟩
    · clear ht
      have hne : (r == m) = false := by simp; omega
      have h : r < m := by omega
      have hup : (q != f) = false := by simp [hqf]
      have hq1 : q ≤ f := by omega
      have hq2 : f ≤ q := by omega
      by_cases h9 : f = 9223372036854775807
      · obtain rfl : q = 9223372036854775807 := by omega
        subst h9
        clear hqf hq1 hq2 hup
        have hw9 : wrap64 9223372036854775808 = -9223372036854775808 := by simp [wrap64]
        go_wp2_with fail
        refine (hR _).mono ?_
        rintro e w5 ⟨rfl, h5⟩
        by_cases hs : s < 0 ∨ 62 < s
        · rw [show rdQ x s = 0 from if_pos hs, show rdE s = 20 from if_pos hs]
          by_cases hs' : s < 0
          · go_wp2
            go_ret
            exact ⟨rfl, HK.out.trans h5.fresh (fun _ _ e => e)⟩
          · have hs'' : 62 < s := by omega
            go_wp2
            go_ret
            exact ⟨rfl, HK.out.trans h5.fresh (fun _ _ e => e)⟩
        · rw [show rdQ x s = near x (2 ^ s.toNat) from if_neg hs, show rdE s = 0 from if_neg hs]
          obtain ⟨k, rfl⟩ : ∃ k : Nat, s = k := ⟨s.toNat, by omega⟩
          rw [Int.toNat_natCast]
          obtain ⟨p1, p2⟩ := pow62 k (by omega)
          have hQ := fun w => near_ok x (2 ^ k) w ⟨x0, x1⟩ p1 (by omega)
          generalize near x (2 ^ k) = v at *
          go_wp2_with fail
          refine (hQ _).mono ?_
          rintro e w6 ⟨rfl, h6⟩
          go_wp2
          go_ret
          exact ⟨rfl, HK.out.trans (h5.trans h6).fresh (fun _ _ e => e)⟩
      · clear hqf
        go_wp2_with fail
        refine (hR _).mono ?_
        rintro e w5 ⟨rfl, h5⟩
        by_cases hs : s < 0 ∨ 62 < s
        · rw [show rdQ x s = 0 from if_pos hs, show rdE s = 20 from if_pos hs]
          by_cases hs' : s < 0
          · go_wp2
            go_ret
            exact ⟨rfl, HK.out.trans h5.fresh (fun _ _ e => e)⟩
          · have hs'' : 62 < s := by omega
            go_wp2
            go_ret
            exact ⟨rfl, HK.out.trans h5.fresh (fun _ _ e => e)⟩
        · rw [show rdQ x s = near x (2 ^ s.toNat) from if_neg hs, show rdE s = 0 from if_neg hs]
          obtain ⟨k, rfl⟩ : ∃ k : Nat, s = k := ⟨s.toNat, by omega⟩
          rw [Int.toNat_natCast]
          obtain ⟨p1, p2⟩ := pow62 k (by omega)
          have hQ := fun w => near_ok x (2 ^ k) w ⟨x0, x1⟩ p1 (by omega)
          generalize near x (2 ^ k) = v at *
          go_wp2_with fail
          refine (hQ _).mono ?_
          rintro e w6 ⟨rfl, h6⟩
          go_wp2
          go_ret
          exact ⟨rfl, HK.out.trans (h5.trans h6).fresh (fun _ _ e => e)⟩
    · obtain rfl : m = r := by omega
      clear hm hm1
      rw [show (!decide (q % 2 = 0)) = false by simp [hqf, h]] at ht
      have h9 : f < 9223372036854775807 := by omega
      have hup : (q != f) = false := by simp [hqf]
      have hq1 : q ≤ f := by omega
      have hq2 : f ≤ q := by omega
      clear hqf h
      go_wp2_with fail
      refine (hR _).mono ?_
      rintro e w5 ⟨rfl, h5⟩
      by_cases hs : s < 0 ∨ 62 < s
      · rw [show rdQ x s = 0 from if_pos hs, show rdE s = 20 from if_pos hs]
        by_cases hs' : s < 0
        · go_wp2
          go_ret
          exact ⟨rfl, HK.out.trans h5.fresh (fun _ _ e => e)⟩
        · have hs'' : 62 < s := by omega
          go_wp2
          go_ret
          exact ⟨rfl, HK.out.trans h5.fresh (fun _ _ e => e)⟩
      · rw [show rdQ x s = near x (2 ^ s.toNat) from if_neg hs, show rdE s = 0 from if_neg hs]
        obtain ⟨k, rfl⟩ : ∃ k : Nat, s = k := ⟨s.toNat, by omega⟩
        rw [Int.toNat_natCast]
        obtain ⟨p1, p2⟩ := pow62 k (by omega)
        have hQ := fun w => near_ok x (2 ^ k) w ⟨x0, x1⟩ p1 (by omega)
        generalize near x (2 ^ k) = v at *
        go_wp2_with fail
        refine (hQ _).mono ?_
        rintro e w6 ⟨rfl, h6⟩
        go_wp2
        go_ret
        exact ⟨rfl, HK.out.trans (h5.trans h6).fresh (fun _ _ e => e)⟩
    · clear ht
      have hne : (r == m) = false := by simp; omega
      have h : m < r := by omega
      go_wp2_with fail
      refine (hR _).mono ?_
      rintro e w5 ⟨rfl, h5⟩
      by_cases hs : s < 0 ∨ 62 < s
      · rw [show rdQ x s = 0 from if_pos hs, show rdE s = 20 from if_pos hs]
        by_cases hs' : s < 0
        · go_wp2
          go_ret
          exact ⟨rfl, HK.out.trans h5.fresh (fun _ _ e => e)⟩
        · have hs'' : 62 < s := by omega
          go_wp2
          go_ret
          exact ⟨rfl, HK.out.trans h5.fresh (fun _ _ e => e)⟩
      · rw [show rdQ x s = near x (2 ^ s.toNat) from if_neg hs, show rdE s = 0 from if_neg hs]
        obtain ⟨k, rfl⟩ : ∃ k : Nat, s = k := ⟨s.toNat, by omega⟩
        rw [Int.toNat_natCast]
        obtain ⟨p1, p2⟩ := pow62 k (by omega)
        have hQ := fun w => near_ok x (2 ^ k) w ⟨x0, x1⟩ p1 (by omega)
        generalize near x (2 ^ k) = v at *
        go_wp2_with fail
        refine (hQ _).mono ?_
        rintro e w6 ⟨rfl, h6⟩
        go_wp2
        go_ret
        exact ⟨rfl, HK.out.trans (h5.trans h6).fresh (fun _ _ e => e)⟩
    · obtain rfl : m = r := by omega
      clear hm hm1
      rw [show (!decide ((f + 1) % 2 = 0)) = false by simp; omega] at ht
      go_wp2_with fail
      refine (hR _).mono ?_
      rintro e w5 ⟨rfl, h5⟩
      by_cases hs : s < 0 ∨ 62 < s
      · rw [show rdQ x s = 0 from if_pos hs, show rdE s = 20 from if_pos hs]
        by_cases hs' : s < 0
        · go_wp2
          go_ret
          exact ⟨rfl, HK.out.trans h5.fresh (fun _ _ e => e)⟩
        · have hs'' : 62 < s := by omega
          go_wp2
          go_ret
          exact ⟨rfl, HK.out.trans h5.fresh (fun _ _ e => e)⟩
      · rw [show rdQ x s = near x (2 ^ s.toNat) from if_neg hs, show rdE s = 0 from if_neg hs]
        obtain ⟨k, rfl⟩ : ∃ k : Nat, s = k := ⟨s.toNat, by omega⟩
        rw [Int.toNat_natCast]
        obtain ⟨p1, p2⟩ := pow62 k (by omega)
        have hQ := fun w => near_ok x (2 ^ k) w ⟨x0, x1⟩ p1 (by omega)
        generalize near x (2 ^ k) = v at *
        go_wp2_with fail
        refine (hQ _).mono ?_
        rintro e w6 ⟨rfl, h6⟩
        go_wp2
        go_ret
        exact ⟨rfl, HK.out.trans (h5.trans h6).fresh (fun _ _ e => e)⟩

set_option maxHeartbeats 800000 in
theorem walk (x d s : Int) (w : World) (hB : Bend w) (hx : I64 x) (hd : I64 d) :
    Calls Tryd.prog 3 #[.int .i64 x, .int .i64 d, .int .i64 s] w fun e w' => e = .returned (.bool true) ∧ Fresh w w' := by
  rcases Int.lt_or_le d 1 with h | h
  · go_enter Tryd.func3, Tryd.ntmps3
    go_wp2_with fail
    refine (awake_any _ hB).mono ?_
    rintro e w1 ⟨rfl, h1⟩
    go_wp2_with fail
    refine (near_bad _ _ _ h).mono ?_
    rintro e w2 ⟨rfl, h2⟩
    go_wp2
    go_ret
    exact ⟨rfl, h1.trans h2.fresh (fun _ _ e => e)⟩
  · exact walk_ok x d s w hB hx hd h

theorem contract (H : Type) (enc : TypeId × Value → H) (W : World) (base : Nat) (args : Array Value) (ds gs : List (DataW H)) (before : List MemPlace)
    (hval : ∀ (j : Nat) t v, Tryd.f3.params[j]? = some t → args[j]? = some v → Value.okWide Tryd.prog W .any base t v)
    (hW : DataW.Whole enc Tryd.prog Tryd.f3.params.toList Rows.fixedNearestSpec.vars false W args.toList ds gs before) 
    (hsz : (DataW.weightsEach Tryd.prog (Tryd.f3.params.toList ++ []) (ds ++ gs)).all (· ≤ reachBytes) = true) (hL : laidMetH Tryd.prog Rows.fixedNearestRow.laid W) :
    Calls Tryd.prog 3 args W fun e W' => ∃ v, e = .returned v ∧ Rows.fixedNearestSpec.post enc Tryd.prog Tryd.f3 false true false false W args v W' := by
  have hW' := hW
  obtain ⟨p, q, hA0, hV, rfl, hfz, hnd⟩ := hW
  have hA : DataW.TrodAll enc Tryd.prog W 0 (fun _ => true) true Tryd.f3.params.toList args.toList ds p := hA0
  rw [Tryd.params3] at hA hval hsz
  obtain ⟨rfl, rfl⟩ := trodVars_none hV
  obtain ⟨v0, v1, v2, d0, d1, d2, p0, p1, p2, rfl, rfl, rfl, h0, h1, h2⟩ := trodAll_three hA
  obtain ⟨x0, rfl, rfl, rfl, w0⟩ := open_int Tryd.underlying2 (hval 0 2 v0 rfl rfl) h0
  obtain ⟨x1, rfl, rfl, rfl, w1⟩ := open_int Tryd.underlying2 (hval 1 2 v1 rfl rfl) h1
  obtain ⟨x2, rfl, rfl, rfl, w2⟩ := open_int Tryd.underlying3 (hval 2 3 v2 rfl rfl) h2
  refine (walk x0 x1 x2 W (bend_of_laid hL) (i64_of w0) (i64_of w1)).mono fun e W' ⟨he, hk⟩ => ?_
  subst he
  exact ⟨_, rfl, post_law rfl (by kernel_rfl) (by kernel_rfl) hW' rfl hk⟩

theorem laid_met (os : Os) : laidMet Tryd.prog Rows.fixedNearestRow.laid ((layIn (World.holding Tryd.prog os ⟨#[], #[], []⟩)).forCall (fun _ _ => 0) ⟨#[], #[.int .i64 0, .int .i64 0, .int .i64 0], []⟩).memory :=
  laidMet_of_run' 8 (by kernel_rfl) (by kernel_rfl)
theorem reads (os : Os) {H : Type} (enc : TypeId × Value → H) : ∃ places, DataW.whole enc Tryd.prog ((layIn (World.holding Tryd.prog os ⟨#[], #[], []⟩)).forCall (fun _ _ => 0) ⟨#[], #[.int .i64 0, .int .i64 0, .int .i64 0], []⟩).memory Tryd.f3.params.toList Rows.fixedNearestSpec.vars false (#[.int .i64 0, .int .i64 0, .int .i64 0] : Array Value).toList 8 = some ([.lit (.int .i64 0), .lit (.int .i64 0), .lit (.int .i64 0)], [], places) :=
  ⟨[], by kernel_rfl⟩

set_option maxRecDepth 100000 in
theorem lifted (os : Os) (started : os.Started) (H : Type) (enc : TypeId × Value → H) (F : Stop.Interp) :
    ReturnsInHanded {} Tryd.checked os 3 .any ((OpenSpec.ofChange Rows.fixedNearestSpec).preRow enc Tryd.prog Tryd.f3 Rows.fixedNearestRow.domain false Rows.fixedNearestRow.laid) (((OpenSpec.ofChange Rows.fixedNearestSpec).at F).post enc Tryd.prog Tryd.f3 false true false false) := by
  obtain ⟨places, hx⟩ := reads os enc
  refine returnsInHanded_of_row (C := Tryd.checked) (s := OpenSpec.ofChange Rows.fixedNearestSpec) Tryd.own started (by kernel_rfl) Tryd.func3
    (witness_row_at (enc := enc) (C := Tryd.checked) false (layIn (World.holding Tryd.prog os ⟨#[], #[], []⟩)) #[.int .i64 0, .int .i64 0, .int .i64 0] rfl (by kernel_rfl) (by kernel_rfl) (by kernel_rfl)
      (OpenSpec.preRow_of_cond 8 hx (by kernel_rfl) (fun k hk => by cases hk) (by kernel_rfl) (laid_met os))) ?_
  intro W base args ds gs before hval hW _ hc hsz hL _ _
  exact contract H enc W base args ds gs before hval hW hsz hL

theorem said : Rows.FixedNearestSaid :=
  OpenClaim.holds_of_cond 3 Tryd.f3 rfl rfl rfl rfl rfl rfl rfl ⟨rfl, rfl, rfl, rfl, rfl⟩ rfl rfl rfl rfl rfl (by kernel_rfl) Tryd.func3 (by kernel_rfl)
    (of_decide_eq_true (by kernel_rfl)) (by unfold Func.isWrapper; first | (rw [if_pos (by decide +kernel)]; kernel_rfl) | (rw [if_neg (by decide +kernel)]; exact ⟨rfl, rfl⟩))
    (fun os started H enc _ F => by rw [OpenClaim.pre_eq_preRow]; exact lifted os started H enc F)

theorem plain (f : FuncId) (fn : Func) (hf : Tryd.pinned.checked.prog.funcNamed Rows.fixedNearestRow.func = some f) (hfn : Tryd.pinned.checked.prog.funcs[f]? = some fn) :
    false = Tryd.pinned.checked.prog.looks [] ∧ ∀ (j : Nat) t, fn.params[j]? = some t → Tryd.pinned.checked.prog.wantsStandIn t = false := by
  obtain rfl : f = 3 := Option.some.inj ((show Tryd.prog.funcNamed Rows.fixedNearestRow.func = some 3 by kernel_rfl).symm.trans hf) |>.symm
  obtain rfl : fn = Tryd.f3 := (Option.some.inj (Tryd.func3.symm.trans hfn)).symm
  refine ⟨by kernel_rfl, fun j t ht => ?_⟩
  have hall : (Tryd.f3.params.toList.all fun u => !Tryd.prog.wantsStandIn u) = true := by kernel_rfl
  exact (show Tryd.prog.wantsStandIn t = false by simpa using List.all_eq_true.1 hall t (Array.mem_toList_iff.2 (Array.mem_of_getElem? ht)))

theorem card : Rows.FixedNearestCardSaid :=
  Claim7.holds_tied_plain_at .later [] _ _ _ _ said (fun _ h => by cases h) (by kernel_rfl) (fun _ h => by cases h) fixedNearest_row_tie rfl ⟨rfl, rfl⟩ (by kernel_rfl) rfl plain (by kernel_rfl)

end Go.Proofs.YtohimhojieeloabDoor.Nearest
namespace Go.Proofs.YtohimhojieeloabDoor
theorem fixedNearest_card : Rows.FixedNearestCardSaid := Nearest.card
end Go.Proofs.YtohimhojieeloabDoor
