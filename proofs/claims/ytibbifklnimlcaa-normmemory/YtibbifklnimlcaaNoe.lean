/-
  Rows held against one another; awake.
-/
import Derived.Test.YtibbifklnimlcaaNob
namespace Go.Proofs.Ytibbifklnimlcaa
open Go.RowKit Go.Lib Go.Maps

set_option maxHeartbeats 1000000 in
set_option maxRecDepth 100000 in
theorem longs_any (p q : Nat → Prop) (a b : Value) (zs : List Int) (w : World) (ha : Rk .i64 p w a zs) (hb : Rk .i64 q w b zs) :
    Calls Try.prog 12 #[a, b] w fun e w' => e = .returned (.bool true) ∧ ∃ n, w' = w.drewN n := by
  obtain ⟨ao, ac, rfl, _⟩ := ha.shape
  obtain ⟨bo, bc, rfl, _⟩ := hb.shape
  obtain ⟨_, _, _, hca⟩ := ha.cells
  obtain ⟨_, _, _, hcb⟩ := hb.cells
  have hmany := ha.many
  obtain ⟨n, hn⟩ : ∃ n, zs.length = n := ⟨_, rfl⟩
  rw [hn] at hca hcb hmany ⊢
  clear ha hb hn
  go_enter Try.func12, Try.ntmps12
  go_wp2
  go_loopw [5] (fun i wr => ∃ j : Nat, j ≤ n ∧ i = zV j ∧ ∃ n, wr = w.drewN n) (fun i _ => n - (RowKit.intOf i).toNat)
  case atStart => exact ⟨0, Nat.zero_le _, rfl, 0, rfl⟩
  case round =>
    obtain ⟨j, hj, rfl, d, rfl⟩ := hrel
    by_cases hlt : j < n
    · obtain ⟨ab, aoff, rfl, _, _, h1⟩ := hca (by omega)
      obtain ⟨bb, boff, rfl, _, _, h2⟩ := hcb (by omega)
      have g1 := h1 j hlt
      have g2 := h2 j hlt
      have hlt' : (j : Int) < (n : Int) := by omega
      clear h1 h2 hca hcb
      generalize zs.getD j 0 = x at *
      go_wp2_with fail
      go_quiet (fail)
      go_wp2
      go_roundw
      case rel => exact ⟨j + 1, hlt, by go_num, d + nq, rfl⟩
      case measure => simp [RowKit.intOf]; omega
    · obtain rfl : j = n := by omega
      clear hca hcb
      go_wp2
      go_ret
      exact ⟨rfl, d, rfl⟩

set_option maxHeartbeats 1000000 in
set_option maxRecDepth 100000 in
theorem rows_any (p q : Nat → Prop) (a b : Value) (zs : List Int) (w : World) (ha : Rk .i8 p w a zs) (hb : Rk .i8 q w b zs) :
    Calls Try.prog 15 #[a, b] w fun e w' => e = .returned (.bool true) ∧ ∃ n, w' = w.drewN n := by
  obtain ⟨ao, ac, rfl, _⟩ := ha.shape
  obtain ⟨bo, bc, rfl, _⟩ := hb.shape
  obtain ⟨_, _, _, hca⟩ := ha.cells
  obtain ⟨_, _, _, hcb⟩ := hb.cells
  have hmany := ha.many
  obtain ⟨n, hn⟩ : ∃ n, zs.length = n := ⟨_, rfl⟩
  rw [hn] at hca hcb hmany ⊢
  clear ha hb hn
  go_enter Try.func15, Try.ntmps15
  go_wp2
  go_loopw [5] (fun i wr => ∃ j : Nat, j ≤ n ∧ i = zV j ∧ ∃ n, wr = w.drewN n) (fun i _ => n - (RowKit.intOf i).toNat)
  case atStart => exact ⟨0, Nat.zero_le _, rfl, 0, rfl⟩
  case round =>
    obtain ⟨j, hj, rfl, d, rfl⟩ := hrel
    by_cases hlt : j < n
    · obtain ⟨ab, aoff, rfl, _, _, h1⟩ := hca (by omega)
      obtain ⟨bb, boff, rfl, _, _, h2⟩ := hcb (by omega)
      have g1 := h1 j hlt
      have g2 := h2 j hlt
      have hlt' : (j : Int) < (n : Int) := by omega
      clear h1 h2 hca hcb
      generalize zs.getD j 0 = x at *
      go_wp2_with fail
      go_quiet (fail)
      go_wp2
      go_roundw
      case rel => exact ⟨j + 1, hlt, by go_num, d + nq, rfl⟩
      case measure => simp [RowKit.intOf]; omega
    · obtain rfl : j = n := by omega
      clear hca hcb
      go_wp2
      go_ret
      exact ⟨rfl, d, rfl⟩

theorem awake_num : roE [3, 4] [64, 64] = 0 ∧ roL [3, 4] [64, 64] = [64, 85] := by
  have h0 : roE [3, 4] [64, 64] = 0 := by decide
  have hm : mnN [3, 4] = 12 := by decide
  have hr : rt [3, 4] = 3 := by
    unfold rt
    rw [hm, root_unique (root_isq 12) (show Root 12 3 from ⟨by decide, by decide⟩)]
    rfl
  refine ⟨h0, ?_⟩
  rw [roL_ok h0]
  unfold noF
  rw [hr]
  decide

set_option maxHeartbeats 1000000 in
set_option maxRecDepth 100000 in
theorem awake_any (w : World) : Calls Try.prog 11 #[] w fun e w' => e = .returned (.bool true) ∧ Fresh w w' := by
  have h1 : ∀ W : World, (W.alloc (.cells #[.int .i64 3, .int .i64 4] 2)).ownsRow 0 2 1 (.slice (some ⟨W.heap.size, 0, none⟩) 2 2) 2 (([3, 4] : List Int).map (Value.int .i64)) := fun W => ⟨rfl, .inr ⟨_, _, _, rfl, Nat.zero_le _, heap_alloc_new W _, Nat.le_refl _, by unfold maxLen; omega, rfl, rfl⟩⟩
  have h2 : ∀ W : World, (W.alloc (.cells #[.int .i8 64, .int .i8 64] 45)).ownsRow 0 45 1 (.slice (some ⟨W.heap.size, 0, none⟩) 2 2) 2 (([64, 64] : List Int).map (Value.int .i8)) := fun W => ⟨rfl, .inr ⟨_, _, _, rfl, Nat.zero_le _, heap_alloc_new W _, Nat.le_refl _, by unfold maxLen; omega, rfl, rfl⟩⟩
  have k1 := h1 w
  have k2 := h2 (w.alloc (.cells #[.int .i64 3, .int .i64 4] 2))
  have k3 := owns_kept k1 ((Kept.refl (fun _ => False) _).alloc (.cells #[.int .i8 64, .int .i8 64] 45)) (fun _ _ e => e)
  rw [World.size_alloc] at k2
  have HT : Hid (Unit → _) := fun (_ : Unit) => Row_any _ _ _ _ [3, 4] [64, 64] _ (rk_of_own k3 (by simp [kb]) (by simp [Fit, I64])) (rk_of_own k2 (by simp [kb]) (by simp [Fit, C8]))
  have HF0 : Hid (Fresh w ((w.alloc (.cells #[.int .i64 3, .int .i64 4] 2)).alloc (.cells #[.int .i8 64, .int .i8 64] 45))) := ((Kept.refl _ w).alloc _).alloc _
  clear h1 h2 k1 k2 k3
  rw [awake_num.1, awake_num.2] at HT
  go_enter Try.func11, Try.ntmps11
  go_wp2_with fail
  refine (HT.out ()).mono ?_
  rintro e w1 ⟨v, rfl, hown, hF⟩
  have HF : Hid (Fresh w w1) := HF0.out.trans hF (fun _ _ e => e)
  obtain ⟨g, cap, rfl⟩ : ∃ g cap, v = .slice (some ⟨g, 0, none⟩) 2 cap := by
    rcases hown.2 with ⟨_, e⟩ | ⟨g', cap', cur, hv, hb, _⟩
    · simp at e
    · exact ⟨g', cap', hv⟩
  have c0 : w1.cell? ⟨g, 0, none⟩ = some (.int .i8 64) := hown.cellAt 0 (by decide)
  have c1 : w1.cell? ⟨g, 1, none⟩ = some (.int .i8 85) := hown.cellAt 1 (by decide)
  clear hown hF HT
  go_wp2
  go_ret
  exact ⟨rfl, HF.out⟩
end Go.Proofs.Ytibbifklnimlcaa
