/-
  What is wrong with a row, its root, what becomes of a number: the package's.
-/
import Derived.Test.YtibbifklnimlcaaNoN
import Derived.Laws.Externs
namespace Go.Proofs.Ytibbifklnimlcaa
open Go.RowKit Go.Lib Go.Maps

set_option maxHeartbeats 2000000 in
set_option maxRecDepth 100000 in
theorem reach_any (p : Nat → Prop) (lv : Value) (zs : List Int) (w : World) (hl : Rk .i64 p w lv zs) :
    Calls Try.prog 26 #[lv] w fun e w' => e = .returned (zV (reE zs)) ∧ w' = w := by
  have H8 : Hid (∀ j, I64 (zs.getD j 0)) := fun j => hl.get j
  have hmany := hl.many
  obtain ⟨ao, ac, rfl, _⟩ := hl.shape
  obtain ⟨_, _, _, hca⟩ := hl.cells
  obtain ⟨n, hn⟩ : ∃ n, zs.length = n := ⟨_, rfl⟩
  have HN : Hid (zs.length = n) := hn
  rw [hn] at hca hmany ⊢
  clear hl hn
  go_enter Try.func26, Try.ntmps26
  go_wp2
  go_loopw [7] (fun i wr => ∃ j : Nat, j ≤ n ∧ i = zV j ∧ Hid (∀ z ∈ zs.take j, Rc z) ∧ wr = w) (fun i _ => n - (RowKit.intOf i).toNat)
  case atStart => exact ⟨0, Nat.zero_le _, rfl, (fun z hz => by simp at hz), rfl⟩
  case round =>
    obtain ⟨j, hj, rfl, HA, rfl⟩ := hrel
    by_cases hlt : j < n
    · obtain ⟨ab, aoff, rfl, _, _, h1⟩ := hca (by omega)
      have g1 := h1 j hlt
      have hlt' : (j : Int) < (n : Int) := by omega
      have hjl : j < zs.length := by rw [HN.out]; exact hlt
      have HB : Hid (¬ Rc (zs.getD j 0) → reE zs = 90) := fun h => reE_bad hjl h
      have HG : Hid (Rc (zs.getD j 0) → ∀ z ∈ zs.take (j + 1), Rc z) := fun h => take_all hjl HA.out h
      obtain ⟨x0, x1⟩ := H8.out j
      clear h1 hca hjl HA
      generalize zs.getD j 0 = x at *
      by_cases q1 : x < -268435456
      · go_wp2
        go_ret
        exact ⟨by rw [HB.out (fun h => by have := h.1; omega)]; rfl, rfl⟩
      · by_cases q2 : 268435456 < x
        · go_wp2
          go_ret
          exact ⟨by rw [HB.out (fun h => by have := h.2; omega)]; rfl, rfl⟩
        · go_wp2
          go_roundw
          case rel => exact ⟨j + 1, hlt, by go_num, HG.out ⟨by omega, by omega⟩, trivial⟩
          case measure => simp [RowKit.intOf]; omega
    · obtain rfl : j = n := by omega
      have HE : Hid (reE zs = 0) := by
        have h := HA.out
        rw [List.take_of_length_le (by rw [HN.out]; exact Nat.le_refl _)] at h
        exact reE_ok h
      clear hca HA
      go_wp2
      go_ret
      exact ⟨by rw [HE.out]; rfl, rfl⟩

set_option maxHeartbeats 1000000 in
set_option maxRecDepth 100000 in
theorem refusal_any (p : Nat → Prop) (lv : Value) (zs : List Int) (w : World) (hl : Rk .i64 p w lv zs) :
    Calls Try.prog 19 #[lv] w fun e w' => e = .returned (zV (nE zs)) ∧ w' = w := by
  have HR : Hid (Unit → _) := fun (_ : Unit) => reach_any p lv zs w hl
  obtain ⟨ao, ac, rfl, _⟩ := hl.shape
  clear hl
  by_cases q1 : zs.length < 1
  · rw [nE_len (.inl q1)]
    have q1' : (zs.length : Int) < 1 := by omega
    go_enter Try.func19, Try.ntmps19
    go_wp2
    go_ret
    exact ⟨rfl, rfl⟩
  · by_cases q2 : 64 < zs.length
    · rw [nE_len (.inr q2)]
      have q1' : ¬ (zs.length : Int) < 1 := by omega
      have q2' : (64 : Int) < (zs.length : Int) := by omega
      go_enter Try.func19, Try.ntmps19
      go_wp2
      go_ret
      exact ⟨rfl, rfl⟩
    · rw [nE_re (by omega)]
      have q1' : ¬ (zs.length : Int) < 1 := by omega
      have q2' : ¬ (64 : Int) < (zs.length : Int) := by omega
      go_enter Try.func19, Try.ntmps19
      go_wp2_with fail
      refine (HR.out ()).mono ?_
      rintro e w1 ⟨rfl, hw1⟩
      have hw2 := hw1.symm
      subst hw2
      clear hw1 HR
      go_wp2
      go_ret
      exact ⟨rfl, rfl⟩

theorem sq_i64 {zs : List Int} (h : ∀ z ∈ zs, Rc z) (h2 : zs.length ≤ 64) (j : Nat) : 0 ≤ sqN (zs.take j) ∧ sqN (zs.take j) ≤ 4611686018427387904 := by
  obtain ⟨a, b⟩ := sqN_bound (zs.take j) (fun z hz => h z (List.mem_of_mem_take hz))
  have : (zs.take j).length ≤ 64 := by rw [List.length_take]; omega
  omega

set_option maxHeartbeats 2000000 in
set_option maxRecDepth 100000 in
theorem root_any (p : Nat → Prop) (lv : Value) (zs : List Int) (w : World) (hl : Rk .i64 p w lv zs) (h0 : nE zs = 0) :
    Calls Try.prog 20 #[lv] w fun e w' => e = .returned (zV (rt zs : Nat)) ∧ Drew w w' := by
  obtain ⟨l1, l2, hrc⟩ := nE_zero h0
  have HB : Hid (∀ j, _) := sq_i64 hrc l2
  have HS : Hid (∀ j, j < zs.length → sqN (zs.take (j + 1)) = sqN (zs.take j) + zs.getD j 0 * zs.getD j 0 ∧ Rc (zs.getD j 0)) := fun j hj => ⟨sqN_take hj, getD_all hj hrc⟩
  have HM : Hid (sqN zs / (zs.length : Int) = (mnN zs : Int) ∧ mnN zs ≤ 72057594037927936) := mn_bound l1 hrc
  have HQ : Hid (∀ r, Root (mnN zs) r → (r < 1 → rt zs = 1) ∧ (1 ≤ r → rt zs = r)) := fun r hr => by
    rw [root_unique hr (root_isq _)]
    unfold rt
    omega
  have hmany := hl.many
  obtain ⟨ao, ac, rfl, _⟩ := hl.shape
  obtain ⟨_, _, _, hca⟩ := hl.cells
  obtain ⟨n, hn⟩ : ∃ n, zs.length = n := ⟨_, rfl⟩
  have HE : Hid (zs.take n = zs) := List.take_of_length_le (by omega)
  rw [hn] at hca hmany l1 l2 HS HM ⊢
  clear hl hn h0 hrc
  go_enter Try.func20, Try.ntmps20
  go_wp2
  go_loopw [3, 10] (fun s i wr => ∃ j : Nat, j ≤ n ∧ i = zV j ∧ s = zV (sqN (zs.take j)) ∧ wr = w) (fun _ i _ => n - (RowKit.intOf i).toNat)
  case atStart => exact ⟨0, Nat.zero_le _, rfl, by simp [sqN, dotN], rfl⟩
  case round =>
    obtain ⟨j, hj, rfl, rfl, rfl⟩ := hrel
    by_cases hlt : j < n
    · obtain ⟨ab, aoff, rfl, _, _, h1⟩ := hca (by omega)
      have g1 := h1 j hlt
      have hlt' : (j : Int) < (n : Int) := by omega
      have HT : Hid _ := (HS.out j hlt).1
      obtain ⟨m0, m1⟩ := sq_bound (HS.out j hlt).2
      obtain ⟨x0, x1⟩ := (HS.out j hlt).2
      obtain ⟨s0, s1⟩ := HB.out j
      clear h1 hca
      generalize zs.getD j 0 = x at *
      generalize sqN (zs.take j) = S at *
      obtain ⟨P, hP⟩ : ∃ P, x * x = P := ⟨_, rfl⟩
      rw [hP] at m0 m1 HT
      go_wp2
      go_roundw
      case rel => exact ⟨j + 1, hlt, by go_num, by rw [HT.out], trivial⟩
      case measure => simp [RowKit.intOf]; omega
    · obtain rfl : j = n := by omega
      rw [HE.out]
      obtain ⟨e1, e2⟩ := HM.out
      obtain ⟨s0, s1⟩ := HB.out j
      rw [HE.out] at s0 s1
      have ht : (sqN zs).tdiv (j : Int) = (mnN zs : Int) := by rw [Int.tdiv_eq_ediv_of_nonneg s0]; exact e1
      have HR : Hid (∀ W, _) := fun W => sqrt_ok (mnN zs) W (by omega)
      clear hca HB HS HM e1
      generalize sqN zs = S at *
      generalize mnN zs = M at *
      go_wp2_with fail
      refine (HR.out _).mono ?_
      rintro e w1 ⟨r, rfl, hr, hd⟩
      have HX : Hid _ := HQ.out r hr
      have HD : Hid _ := hd
      clear hr hd HR HQ
      by_cases q : r < 1
      · have q' : (r : Int) < 1 := by omega
        go_wp2
        go_ret
        exact ⟨by rw [HX.out.1 q]; rfl, HD.out⟩
      · have q' : ¬ (r : Int) < 1 := by omega
        go_wp2
        go_ret
        exact ⟨by rw [HX.out.2 (by omega)]; rfl, HD.out⟩

set_option maxHeartbeats 1000000 in
set_option maxRecDepth 100000 in
theorem gained_any (x : Int) (r : Nat) (g : Int) (w : World) (hx : Rc x) (hr : 1 ≤ r) (hr2 : r ≤ 268435456) (hg : C8 g) :
    Calls Try.prog 23 #[zV x, zV r, .int .i8 g] w fun e w' => e = .returned (zV (gN x r g)) ∧ Drew w w' := by
  obtain ⟨m0, m1⟩ := gm_bound hx hr hg
  have HR : Hid (∀ W, _) := fun W => round_ok (gt x r * g) 6 W ⟨by omega, by omega⟩ (by omega)
  obtain ⟨t0, t1⟩ := gt_bound hx hr
  have ht : (64 * x).tdiv (r : Int) = gt x r := rfl
  have HE : Hid (gN x r g = near (gt x r * g) (2 ^ 6)) := rfl
  rw [HE.out]
  clear HE
  obtain ⟨x0, x1⟩ := hx
  obtain ⟨g0, g1⟩ := hg
  generalize gt x r = t at *
  obtain ⟨P, hP⟩ : ∃ P, t * g = P := ⟨_, rfl⟩
  rw [hP] at m0 m1 HR ⊢
  have hr' : ¬ (r : Int) = 0 := by omega
  go_enter Try.func23, Try.ntmps23
  go_wp2_with fail
  refine (HR.out _).mono ?_
  rintro e w1 ⟨rfl, hd⟩
  have HX : Hid _ := hd
  clear hd HR
  go_wp2
  go_ret
  exact ⟨rfl, HX.out⟩
end Go.Proofs.Ytibbifklnimlcaa
