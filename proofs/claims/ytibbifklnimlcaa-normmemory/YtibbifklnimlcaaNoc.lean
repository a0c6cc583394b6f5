/-
  The root of a row, the document's.
-/
import Derived.Test.YtibbifklnimlcaaNoa
import Derived.Test.YtibbifklnimlcaaFsqr
namespace Go.Proofs.Ytibbifklnimlcaa
open Go.RowKit Go.Lib Go.Maps

theorem rV_bad {zs : List Int} (h : nE zs ≠ 0) : rV zs = 0 := if_neg h

set_option maxHeartbeats 4000000 in
set_option maxRecDepth 100000 in
theorem refRoot_any (p : Nat → Prop) (lv : Value) (zs : List Int) (w : World) (hl : Rk .i64 p w lv zs) :
    Calls Try.prog 10 #[lv] w fun e w' => e = .returned (.tuple #[zV (rV zs), zV (nE zs)]) ∧ Drew w w' := by
  have hget : Hid (∀ j, I64 (zs.getD j 0)) := fun j => hl.get j
  obtain ⟨ao, ac, rfl, _⟩ := hl.shape
  obtain ⟨_, _, _, hca⟩ := hl.cells
  have hmany := hl.many
  clear hl
  by_cases q1 : zs.length < 1
  · rw [rV_bad (by rw [nE_len (.inl q1)]; omega), nE_len (.inl q1)]
    have q1' : (zs.length : Int) < 1 := by omega
    go_enter Try.func10, Try.ntmps10
    go_wp2
    go_ret2
    exact ⟨rfl, Drew.refl _⟩
  by_cases q2 : 64 < zs.length
  · rw [rV_bad (by rw [nE_len (.inr q2)]; omega), nE_len (.inr q2)]
    have q1' : ¬ (zs.length : Int) < 1 := by omega
    have q2' : (64 : Int) < (zs.length : Int) := by omega
    go_enter Try.func10, Try.ntmps10
    go_wp2
    go_ret2
    exact ⟨rfl, Drew.refl _⟩
  have HN : Hid (nE zs = reE zs) := nE_re (by omega)
  have HBad : Hid (∀ j, j < zs.length → ¬ Rc (zs.getD j 0) → rV zs = 0 ∧ nE zs = 90) := fun j hj h => by
    have e := reE_bad hj h
    rw [← HN.out] at e
    exact ⟨rV_bad (by rw [e]; omega), e⟩
  have HStep : Hid (∀ j, j < zs.length → Rc (zs.getD j 0) → (∀ z ∈ zs.take j, Rc z) → ∀ z ∈ zs.take (j + 1), Rc z) := fun j hj h h' => take_all hj h' h
  have HSum : Hid (∀ j, (∀ z ∈ zs.take j, Rc z) → 0 ≤ sqN (zs.take j) ∧ sqN (zs.take j) ≤ 4611686018427387904) := fun j h => by
    obtain ⟨a, b⟩ := sqN_bound (zs.take j) h
    have : (zs.take j).length ≤ 64 := by rw [List.length_take]; omega
    omega
  have HS : Hid (∀ j, j < zs.length → sqN (zs.take (j + 1)) = sqN (zs.take j) + zs.getD j 0 * zs.getD j 0) := fun j hj => sqN_take hj
  have HEnd : Hid ((∀ z ∈ zs.take zs.length, Rc z) → nE zs = 0 ∧ rV zs = (rt zs : Int) ∧ sqN zs / (zs.length : Int) = (mnN zs : Int) ∧ mnN zs ≤ 72057594037927936) := fun h => by
    rw [List.take_length] at h
    have e := nE_ok (by omega) (by omega) h
    exact ⟨e, if_pos e, mn_bound (by omega) h⟩
  have HQ : Hid (∀ r, Root (mnN zs) r → (r = 0 → rt zs = 1) ∧ (¬ r = 0 → rt zs = r)) := fun r hr => by
    rw [root_unique hr (root_isq _)]
    unfold rt
    omega
  have HTk : Hid (zs.take zs.length = zs) := List.take_length
  have q1' : ¬ (zs.length : Int) < 1 := by omega
  have q2' : ¬ (64 : Int) < (zs.length : Int) := by omega
  clear HN
  generalize zs.length = n at *
  go_enter Try.func10, Try.ntmps10
  go_wp2
  go_loopw [4, 5] (fun s i wr => ∃ j : Nat, j ≤ n ∧ i = zV j ∧ s = zV (sqN (zs.take j)) ∧ Hid (∀ z ∈ zs.take j, Rc z) ∧ ∃ d, wr = w.drewN d) (fun _ i _ => n - (RowKit.intOf i).toNat)
  case atStart => exact ⟨0, Nat.zero_le _, rfl, by simp [sqN, dotN], (fun z hz => by simp at hz), 0, rfl⟩
  case round =>
    obtain ⟨j, hj, rfl, rfl, HA, d, rfl⟩ := hrel
    by_cases hlt : j < n
    · obtain ⟨ab, aoff, rfl, _, _, h1⟩ := hca (by omega)
      have g1 := h1 j hlt
      have hlt' : (j : Int) < (n : Int) := by omega
      have HT : Hid _ := HS.out j hlt
      have HB1 : Hid _ := HBad.out j hlt
      have HSt : Hid _ := HStep.out j hlt
      obtain ⟨s0, s1⟩ := HSum.out j HA.out
      obtain ⟨x0, x1⟩ := hget.out j
      have HM : Hid (Rc (zs.getD j 0) → _) := fun h => sq_bound h
      clear h1 hca HS HBad HStep HSum HEnd HQ HTk hget
      generalize zs.getD j 0 = x at *
      generalize sqN (zs.take j) = S at *
      by_cases c1 : 268435456 < x
      · go_wp2
        go_ret2
        exact ⟨by rw [(HB1.out (fun h => by have := h.2; omega)).1, (HB1.out (fun h => by have := h.2; omega)).2]; rfl, d, rfl⟩
      · by_cases c2 : x < -268435456
        · go_wp2
          go_ret2
          exact ⟨by rw [(HB1.out (fun h => by have := h.1; omega)).1, (HB1.out (fun h => by have := h.1; omega)).2]; rfl, d, rfl⟩
        · have hR : Rc x := ⟨by omega, by omega⟩
          obtain ⟨m0, m1⟩ := HM.out hR
          have HA2 : Hid _ := HSt.out hR HA.out
          obtain ⟨P, hP⟩ : ∃ P, x * x = P := ⟨_, rfl⟩
          rw [hP] at m0 m1 HT
          clear hR HM HSt HA HB1
          go_wp2_with fail
          go_quiet (fail)
          go_wp2
          go_roundw
          case rel => exact ⟨j + 1, hlt, by go_num, by rw [HT.out], HA2.out, d + nq, rfl⟩
          case measure => simp [RowKit.intOf]; omega
    · obtain rfl : j = n := by omega
      obtain ⟨e0, e1, e2, e3⟩ := HEnd.out HA.out
      obtain ⟨s0, s1⟩ := HSum.out j HA.out
      rw [HTk.out] at s0 s1 ⊢
      have HE : Hid (nE zs = 0 ∧ rV zs = (rt zs : Int)) := ⟨e0, e1⟩
      have ht : (sqN zs).tdiv (j : Int) = (mnN zs : Int) := by rw [Int.tdiv_eq_ediv_of_nonneg s0]; exact e2
      have HR : Hid (∀ W, _) := fun W => refSqrt_ok (mnN zs) W (by omega)
      clear hca HBad HStep HSum HEnd e2 HS HA hget e0 e1 HTk
      generalize sqN zs = S at *
      generalize mnN zs = M at *
      go_wp2_with fail
      refine (HR.out _).mono ?_
      rintro e w1 ⟨r, rfl, hr, hd⟩
      have HX : Hid _ := HQ.out r hr
      have HD : Hid (Drew w w1) := Drew.trans ⟨d, rfl⟩ hd
      clear hr hd HR HQ
      by_cases q : r = 0
      · subst q
        rw [show ((0 : Nat) : Int) = 0 from rfl]
        have HX1 : Hid (rt zs = 1) := HX.out.1 rfl
        clear HX
        go_wp2
        go_ret2
        exact ⟨by rw [HE.out.1, HE.out.2, HX1.out]; rfl, HD.out⟩
      · have q' : ((r : Int) == 0) = false := by simp; omega
        have HX1 : Hid (rt zs = r) := HX.out.2 q
        clear HX
        go_wp2
        go_ret2
        exact ⟨by rw [HE.out.1, HE.out.2, HX1.out]; rfl, HD.out⟩
end Go.Proofs.Ytibbifklnimlcaa
