/-
  Power, the package's and the document's.
-/
import Derived.Test.YtohimhojieeloabDoorPwN
import Derived.Test.YtohimhojieeloabDoorMur
namespace Go.Proofs.YtohimhojieeloabDoor
open Go.RowKit

set_option maxHeartbeats 400000 in
theorem power_neg (x n : Int) (w : World) (hn : n < 0) :
    Calls Tryd.prog 19 #[.int .i64 x, .int .i64 n] w fun e w' => e = .returned (.tuple #[.int .i64 0, .bool false]) ∧ Drew w w' := by
  go_enter Tryd.func19, Tryd.ntmps19
  go_wp2
  go_loop [7] (fun ok => ok = .bool false) (fun _ => 0)
  case atStart => simp; omega
  case round =>
    obtain rfl := hrel
    go_wp2
    go_ret2
    exact ⟨rfl, Drew.refl _⟩

set_option maxRecDepth 100000 in
set_option maxHeartbeats 2000000 in
theorem power_ok (x : Int) (n : Nat) (w : World) (hx : I64 x) (hn : n ≤ 9223372036854775807) :
    Calls Tryd.prog 19 #[.int .i64 x, .int .i64 n] w fun e w' => e = .returned (.tuple #[.int .i64 (powQ (x ^ n)), .bool (powB (x ^ n))]) ∧ Drew w w' := by
  obtain ⟨T, hT⟩ : ∃ T, T = x ^ n := ⟨_, rfl⟩
  rw [← hT]
  have HT : Hid (1 * x ^ n = T) := by show _ = _; rw [Int.one_mul, hT]
  clear hT
  go_enter Tryd.func19, Tryd.ntmps19
  go_wp2
  go_loopw [0, 1, 6, 7] (fun xv nv pv ov wr => ∃ (X P : Int) (k : Nat) (ok : Bool), xv = .int .i64 X ∧ nv = .int .i64 k ∧ pv = .int .i64 P ∧ ov = .bool ok ∧ Drew w wr ∧ I64 X ∧ I64 P ∧ k ≤ 9223372036854775807 ∧ ((ok = true ∧ P * X ^ k = T ∧ (P = 0 → X = 0)) ∨ (ok = false ∧ ¬ I64 T))) (fun _ nv _ _ _ => (intOf nv).toNat)
  case atStart => exact ⟨x, 1, n, true, rfl, rfl, rfl, by simp, Drew.refl _, hx, ⟨by decide, by decide⟩, hn, .inl ⟨rfl, HT.out, fun e => by simp at e⟩⟩
  case round =>
    obtain ⟨X, P, k, ok, rfl, rfl, rfl, rfl, hwr, hX, hP, hk, hc⟩ := hrel
    have HW : Hid (Drew w wr) := hwr
    clear hwr HT
    rcases hc with ⟨rfl, h1, h2⟩ | ⟨rfl, h1⟩
    · by_cases hk0 : k = 0
      · subst hk0
        rw [Int.pow_zero, Int.mul_one] at h1
        subst h1
        have HE : Hid (powQ P = P ∧ powB P = true) := powQ_in hP
        rw [show ((0 : Nat) : Int) = 0 from rfl]
        go_wp2
        go_ret2
        exact ⟨by rw [HE.out.1, HE.out.2]; rfl, HW.out⟩
      · have ho := and_one (k : Int)
        have hMul := fun w => mul_any P X w hP hX
        have hSq := fun w => mul_any X X w hX hX
        by_cases hodd : k % 2 = 1
        · obtain ⟨j, hj⟩ : ∃ j, k = 2 * j + 1 := ⟨k / 2, by omega⟩
          have hko : (k : Int) % 2 = 1 := by omega
          rw [hko] at ho
          by_cases hm : I64 (P * X)
          · obtain ⟨e1, e2⟩ := mulQ_in rfl hm
            rw [e1, e2] at hMul
            by_cases hj0 : j = 0
            · obtain rfl : k = 1 := by omega
              rw [show ((1 : Nat) : Int) = 1 from rfl] at ho ⊢
              have HT : Hid (P * X * X ^ 0 = T) := by show _ = _; rw [Int.pow_zero, Int.mul_one, ← h1, Int.pow_succ, Int.pow_zero, Int.one_mul]
              have HZ : Hid (P * X = 0 → X = 0) := fun e => by
                rcases Int.mul_eq_zero.1 e with e | e
                · exact h2 e
                · exact e
              clear h1 h2 hSq e1 e2 hj
              go_wp2_with fail
              refine (hMul _).mono ?_
              rintro e w1 ⟨rfl, hw1⟩
              go_wp2
              go_roundw
              case rel => exact ⟨X, P * X, 0, true, rfl, rfl, rfl, rfl, HW.out.trans hw1, hX, hm, by omega, .inl ⟨rfl, HT.out, HZ.out⟩⟩
              case measure => simp [intOf]
            · have hk1 : 1 < k := by omega
              by_cases hs : I64 (X * X)
              · obtain ⟨f1, f2⟩ := mulQ_in rfl hs
                rw [f1, f2] at hSq
                have HT : Hid (P * X * (X * X) ^ (k / 2) = T) := by show _ = _; rw [← h1, show k / 2 = j by omega, hj, pow_odd]
                have HZ : Hid (P * X = 0 → X * X = 0) := fun e => by
                  rcases Int.mul_eq_zero.1 e with e | e
                  · rw [h2 e]; rfl
                  · rw [e]; rfl
                clear h1 h2 e1 e2 f1 f2 hj hodd
                generalize X * X = Y at *
                generalize P * X = Q at *
                go_wp2_with fail
                refine (hMul _).mono ?_
                rintro e w1 ⟨rfl, hw1⟩
                go_wp2_with fail
                refine (hSq _).mono ?_
                rintro e w2 ⟨rfl, hw2⟩
                go_wp2
                go_roundw
                case rel => exact ⟨Y, Q, k / 2, true, rfl, by go_num, rfl, rfl, (HW.out.trans hw1).trans hw2, hs, hm, by omega, .inl ⟨rfl, HT.out, HZ.out⟩⟩
                case measure => simp [intOf]; omega
              · obtain ⟨f1, f2⟩ := mulQ_out rfl hs
                rw [f1, f2] at hSq
                have HO : Hid (¬ I64 T) := by
                  show ¬ _
                  obtain ⟨i, rfl⟩ : ∃ i, j = i + 1 := ⟨j - 1, by omega⟩
                  rw [← h1, hj, pow_odd]
                  refine out_sq i hs (fun e => hs ?_)
                  have hX0 : X = 0 := by
                    rcases Int.mul_eq_zero.1 e with e | e
                    · exact h2 e
                    · exact e
                  rw [hX0]; exact ⟨by decide, by decide⟩
                clear h1 h2 e1 e2 f1 f2 hj hodd hs
                generalize P * X = Q at *
                go_wp2_with fail
                refine (hMul _).mono ?_
                rintro e w1 ⟨rfl, hw1⟩
                go_wp2_with fail
                refine (hSq _).mono ?_
                rintro e w2 ⟨rfl, hw2⟩
                go_wp2
                go_roundw
                case rel => exact ⟨0, Q, k / 2, false, rfl, by go_num, rfl, rfl, (HW.out.trans hw1).trans hw2, ⟨by decide, by decide⟩, hm, by omega, .inr ⟨rfl, HO.out⟩⟩
                case measure => simp [intOf]; omega
          · obtain ⟨e1, e2⟩ := mulQ_out rfl hm
            rw [e1, e2] at hMul
            have HO : Hid (¬ I64 T) := by
              show ¬ _
              rw [← h1, hj]
              exact out_odd j hm
            clear h1 h2 e1 e2 hSq hj hodd hm
            go_wp2_with fail
            refine (hMul _).mono ?_
            rintro e w1 ⟨rfl, hw1⟩
            go_wp2
            go_roundw
            case rel => exact ⟨X, 0, k / 2, false, rfl, by go_num, rfl, rfl, HW.out.trans hw1, hX, ⟨by decide, by decide⟩, by omega, .inr ⟨rfl, HO.out⟩⟩
            case measure => simp [intOf]; omega
        · obtain ⟨j, hj⟩ : ∃ j, k = 2 * j := ⟨k / 2, by omega⟩
          have hko : (k : Int) % 2 = 0 := by omega
          rw [hko] at ho
          have hk1 : 1 < k := by omega
          by_cases hs : I64 (X * X)
          · obtain ⟨f1, f2⟩ := mulQ_in rfl hs
            rw [f1, f2] at hSq
            have HT : Hid (P * (X * X) ^ (k / 2) = T) := by show _ = _; rw [← h1, show k / 2 = j by omega, hj, pow_even]
            have HZ : Hid (P = 0 → X * X = 0) := fun e => by rw [h2 e]; rfl
            clear h1 h2 f1 f2 hj hodd hMul
            generalize X * X = Y at *
            go_wp2_with fail
            refine (hSq _).mono ?_
            rintro e w2 ⟨rfl, hw2⟩
            go_wp2
            go_roundw
            case rel => exact ⟨Y, P, k / 2, true, rfl, by go_num, rfl, rfl, HW.out.trans hw2, hs, hP, by omega, .inl ⟨rfl, HT.out, HZ.out⟩⟩
            case measure => simp [intOf]; omega
          · obtain ⟨f1, f2⟩ := mulQ_out rfl hs
            rw [f1, f2] at hSq
            have HO : Hid (¬ I64 T) := by
              show ¬ _
              obtain ⟨i, rfl⟩ : ∃ i, j = i + 1 := ⟨j - 1, by omega⟩
              rw [← h1, hj, pow_even]
              refine out_sq i hs (fun e => hs ?_)
              rw [h2 e]; exact ⟨by decide, by decide⟩
            clear h1 h2 f1 f2 hj hodd hs hMul
            go_wp2_with fail
            refine (hSq _).mono ?_
            rintro e w2 ⟨rfl, hw2⟩
            go_wp2
            go_roundw
            case rel => exact ⟨0, P, k / 2, false, rfl, by go_num, rfl, rfl, HW.out.trans hw2, ⟨by decide, by decide⟩, hP, by omega, .inr ⟨rfl, HO.out⟩⟩
            case measure => simp [intOf]; omega
    · have HE : Hid (powQ T = 0 ∧ powB T = false) := powQ_out h1
      clear h1
      go_wp2
      go_ret2
      exact ⟨by rw [HE.out.1, HE.out.2]; rfl, HW.out⟩

set_option maxHeartbeats 400000 in
theorem refPower_neg (x n : Int) (w : World) (hn : n < 0) :
    Calls Tryd.prog 20 #[.int .i64 x, .int .i64 n] w fun e w' => e = .returned (.tuple #[.int .i64 0, .bool false]) ∧ Drew w w' := by
  go_enter Tryd.func20, Tryd.ntmps20
  go_wp2
  go_ret2
  exact ⟨rfl, Drew.refl _⟩

theorem neg_one_pow (n : Nat) : (-1 : Int) ^ n = if n % 2 = 0 then 1 else -1 := by
  rcases Nat.mod_two_eq_zero_or_one n with h | h
  · obtain ⟨j, rfl⟩ : ∃ j, n = 2 * j := ⟨n / 2, by omega⟩
    rw [if_pos h, ← sq_pow]
    exact Int.one_pow
  · obtain ⟨j, rfl⟩ : ∃ j, n = 2 * j + 1 := ⟨n / 2, by omega⟩
    rw [if_neg (by omega), Int.pow_succ, ← sq_pow]
    show 1 ^ j * -1 = -1
    rw [Int.one_pow]; rfl
theorem zero_pow_pos {n : Nat} (h : n ≠ 0) : (0 : Int) ^ n = 0 := by
  obtain ⟨j, rfl⟩ : ∃ j, n = j + 1 := ⟨n - 1, by omega⟩
  rw [Int.pow_succ, Int.mul_zero]

set_option maxRecDepth 100000 in
set_option maxHeartbeats 2000000 in
theorem refPower_ok (x : Int) (n : Nat) (w : World) (hx : I64 x) (hn : n ≤ 9223372036854775807) :
    Calls Tryd.prog 20 #[.int .i64 x, .int .i64 n] w fun e w' => e = .returned (.tuple #[.int .i64 (powQ (x ^ n)), .bool (powB (x ^ n))]) ∧ Drew w w' := by
  by_cases n0 : n = 0
  · subst n0
    rw [Int.pow_zero]
    go_enter Tryd.func20, Tryd.ntmps20
    go_wp2
    go_ret2
    exact ⟨rfl, Drew.refl _⟩
  have tn : ((n : Int) == 0) = false := by simp; omega
  by_cases x0 : x = 0
  · subst x0
    rw [zero_pow_pos n0]
    go_enter Tryd.func20, Tryd.ntmps20
    go_wp2
    go_ret2
    exact ⟨rfl, Drew.refl _⟩
  by_cases x1 : x = 1
  · subst x1
    rw [Int.one_pow]
    go_enter Tryd.func20, Tryd.ntmps20
    go_wp2
    go_ret2
    exact ⟨rfl, Drew.refl _⟩
  by_cases x2 : x = -1
  · subst x2
    rw [neg_one_pow]
    by_cases he : n % 2 = 0
    · rw [if_pos he]
      have hd : (n : Int) % 2 = 0 := by omega
      go_enter Tryd.func20, Tryd.ntmps20
      go_wp2
      go_ret2
      exact ⟨rfl, Drew.refl _⟩
    · rw [if_neg he]
      have hd : (n : Int) % 2 = 1 := by omega
      go_enter Tryd.func20, Tryd.ntmps20
      go_wp2
      go_ret2
      exact ⟨rfl, Drew.refl _⟩
  have t0 : (x == 0) = false := by simpa using x0
  have t1 : (x == 1) = false := by simpa using x1
  have t2 : (x == -1) = false := by simpa using x2
  have hab : 2 ≤ x.natAbs := by omega
  obtain ⟨T, hT⟩ : ∃ T, T = x ^ n := ⟨_, rfl⟩
  rw [← hT]
  have HT : Hid (x ^ n = T) := hT.symm
  clear hT x0 x1 x2
  go_enter Tryd.func20, Tryd.ntmps20
  go_wp2
  go_loopw [6, 7, 8] (fun pv ov iv wr => ∃ (P : Int) (j : Nat) (ok : Bool), pv = .int .i64 P ∧ iv = .int .i64 j ∧ ov = .bool ok ∧ Drew w wr ∧ j ≤ n ∧ ((ok = true ∧ P = x ^ j ∧ I64 P) ∨ (ok = false ∧ P = 0 ∧ ¬ I64 T))) (fun _ _ iv _ => n - (intOf iv).toNat)
  case atStart => exact ⟨1, 0, true, rfl, rfl, rfl, Drew.refl _, by omega, .inl ⟨rfl, (Int.pow_zero x).symm, ⟨by decide, by decide⟩⟩⟩
  case round =>
    obtain ⟨P, j, ok, rfl, rfl, rfl, hwr, hj, hc⟩ := hrel
    have HW : Hid (Drew w wr) := hwr
    clear hwr
    rcases hc with ⟨rfl, h1, hP⟩ | ⟨rfl, rfl, h1⟩
    · by_cases hlt : j < n
      · have hMul := fun w => refMul_any P x w hP hx
        by_cases hm : I64 (P * x)
        · obtain ⟨e1, e2⟩ := mulQ_in rfl hm
          rw [e1, e2] at hMul
          have HS : Hid (P * x = x ^ (j + 1)) := by show _ = _; rw [Int.pow_succ, h1]
          clear e1 e2 h1
          generalize P * x = Q at *
          go_wp2_with fail
          refine (hMul _).mono ?_
          rintro e w1 ⟨rfl, hw1⟩
          go_wp2
          go_roundw
          case rel => exact ⟨Q, j + 1, true, rfl, by go_num, rfl, HW.out.trans hw1, by omega, .inl ⟨rfl, HS.out, hm⟩⟩
          case measure => simp [intOf]; omega
        · obtain ⟨e1, e2⟩ := mulQ_out rfl hm
          rw [e1, e2] at hMul
          have HO : Hid (¬ I64 T) := by
            show ¬ _
            rw [← HT.out]
            rw [h1, ← Int.pow_succ] at hm
            exact out_pow hm hab (by omega)
          clear e1 e2 h1 hm
          go_wp2_with fail
          refine (hMul _).mono ?_
          rintro e w1 ⟨rfl, hw1⟩
          go_wp2
          go_roundw
          case rel => exact ⟨0, j + 1, false, rfl, by go_num, rfl, HW.out.trans hw1, by omega, .inr ⟨rfl, rfl, HO.out⟩⟩
          case measure => simp [intOf]; omega
      · obtain rfl : j = n := by omega
        rw [HT.out] at h1
        subst h1
        have HE : Hid (powQ P = P ∧ powB P = true) := powQ_in hP
        go_wp2
        go_ret2
        exact ⟨by rw [HE.out.1, HE.out.2]; rfl, HW.out⟩
    · have HE : Hid (powQ T = 0 ∧ powB T = false) := powQ_out h1
      clear h1
      by_cases hlt : j < n
      · go_wp2
        go_ret2
        exact ⟨by rw [HE.out.1, HE.out.2]; rfl, HW.out⟩
      · obtain rfl : j = n := by omega
        go_wp2
        go_ret2
        exact ⟨by rw [HE.out.1, HE.out.2]; rfl, HW.out⟩
end Go.Proofs.YtohimhojieeloabDoor
