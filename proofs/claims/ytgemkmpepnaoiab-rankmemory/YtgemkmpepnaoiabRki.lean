/-
  Rows held against one another; awake; the beginnings of an order.
-/
import Derived.Test.YtgemkmpepnaoiabRkh
namespace Go.Proofs.Ytgemkmpepnaoiab
open Go.RowKit Go.Lib Go.Maps

set_option maxHeartbeats 1000000 in
set_option maxRecDepth 100000 in
theorem ints_any (p q : Nat → Prop) (a b : Value) (zs : List Int) (w : World) (ha : Rw p w a zs) (hb : Rw q w b zs) :
    Calls Try.prog 16 #[a, b] w fun e w' => e = .returned (.bool true) ∧ ∃ n, w' = w.drewN n := by
  obtain ⟨ao, ac, rfl, _, hca, _⟩ := ha
  obtain ⟨bo, bc, rfl, _, hcb, _⟩ := hb
  go_enter Try.func16, Try.ntmps16
  go_wp2
  go_loopw [5] (fun i wr => ∃ j : Nat, j ≤ zs.length ∧ i = zV j ∧ ∃ n, wr = w.drewN n) (fun i _ => zs.length - (RowKit.intOf i).toNat)
  case atStart => exact ⟨0, Nat.zero_le _, rfl, 0, rfl⟩
  case round =>
    obtain ⟨j, hj, rfl, n, rfl⟩ := hrel
    by_cases hlt : j < zs.length
    · have hne : zs ≠ [] := fun e => by rw [e] at hlt; simp at hlt
      obtain ⟨ab, aoff, rfl, _, _, h1⟩ := hca hne
      obtain ⟨bb, boff, rfl, _, _, h2⟩ := hcb hne
      have g1 := h1 j hlt
      have g2 := h2 j hlt
      have hlt' : (j : Int) < (zs.length : Int) := by omega
      clear h1 h2 hca hcb hne
      generalize zs.getD j 0 = x at *
      go_wp2_with fail
      go_quiet (fail)
      go_wp2
      go_roundw
      case rel => exact ⟨j + 1, hlt, by go_num, n + nq, rfl⟩
      case measure => simp [RowKit.intOf]; omega
    · obtain rfl : j = zs.length := by omega
      clear hca hcb
      go_wp2
      go_ret
      exact ⟨rfl, n, rfl⟩

set_option maxHeartbeats 1000000 in
set_option maxRecDepth 100000 in
theorem longs_any (p q : Nat → Prop) (a b : Value) (zs : List Int) (w : World) (ha : Rw p w a zs) (hb : Rw q w b zs) :
    Calls Try.prog 11 #[a, b] w fun e w' => e = .returned (.bool true) ∧ ∃ n, w' = w.drewN n := by
  obtain ⟨ao, ac, rfl, _, hca, _⟩ := ha
  obtain ⟨bo, bc, rfl, _, hcb, _⟩ := hb
  go_enter Try.func11, Try.ntmps11
  go_wp2
  go_loopw [5] (fun i wr => ∃ j : Nat, j ≤ zs.length ∧ i = zV j ∧ ∃ n, wr = w.drewN n) (fun i _ => zs.length - (RowKit.intOf i).toNat)
  case atStart => exact ⟨0, Nat.zero_le _, rfl, 0, rfl⟩
  case round =>
    obtain ⟨j, hj, rfl, n, rfl⟩ := hrel
    by_cases hlt : j < zs.length
    · have hne : zs ≠ [] := fun e => by rw [e] at hlt; simp at hlt
      obtain ⟨ab, aoff, rfl, _, _, h1⟩ := hca hne
      obtain ⟨bb, boff, rfl, _, _, h2⟩ := hcb hne
      have g1 := h1 j hlt
      have g2 := h2 j hlt
      have hlt' : (j : Int) < (zs.length : Int) := by omega
      clear h1 h2 hca hcb hne
      generalize zs.getD j 0 = x at *
      go_wp2_with fail
      go_quiet (fail)
      go_wp2
      go_roundw
      case rel => exact ⟨j + 1, hlt, by go_num, n + nq, rfl⟩
      case measure => simp [RowKit.intOf]; omega
    · obtain rfl : j = zs.length := by omega
      clear hca hcb
      go_wp2
      go_ret
      exact ⟨rfl, n, rfl⟩

theorem ord_111 {o : List Nat} (h : IsOrd (fun i => ([1, 1, 1] : List Int).getD i 0) 3 o) : o = [0, 1, 2] :=
  h.unique ⟨by decide, by simp [Bf]⟩
theorem ord_35 {o : List Nat} (h : IsOrd (fun i => ([3, 5] : List Int).getD i 0) 2 o) : o = [1, 0] :=
  h.unique ⟨by decide, by simp [Bf]⟩
theorem share_111 {L : List Int} (h : ShIs [1, 1, 1] 4 L) : sE [1, 1, 1] 4 = 0 ∧ L = [2, 1, 1] := by
  have h0 : sE [1, 1, 1] 4 = 0 := by decide
  rcases h with ⟨h, _⟩ | ⟨_, o, ho, rfl⟩
  · exact absurd h0 h
  · refine ⟨h0, ?_⟩
    rw [ord_111 ho]
    decide

set_option maxHeartbeats 1000000 in
set_option maxRecDepth 100000 in
theorem awake_any (w : World) : Calls Try.prog 10 #[] w fun e w' => e = .returned (.bool true) ∧ Fresh w w' := by
  have h1 : ∀ W : World, At6 (W.alloc (.cells #[zV 1, zV 1, zV 1] 2)) W.heap.size [1, 1, 1] := fun W => heap_alloc_new W _
  have h2 : ∀ W : World, At6 (W.alloc (.cells #[zV 3, zV 5] 2)) W.heap.size [3, 5] := fun W => heap_alloc_new W _
  have HS : Hid (Unit → _) := fun (_ : Unit) => share_any _ [1, 1, 1] 4 _ ((rw_of_at6 (h1 w) 3 (by decide) (by simp [I64])).mono (fun k hk => by rw [hk]; simp)) ⟨by decide, by decide⟩
  have HO : Hid (∀ W : World, _) := fun (W : World) => order_any _ [3, 5] _ ((rw_of_at6 (h2 W) 2 (by decide) (by simp [I64])).mono (fun k hk => by rw [hk]; simp))
  clear h1 h2
  go_enter Try.func10, Try.ntmps10
  go_wp2_with fail
  refine (HS.out ()).mono ?_
  rintro e w1 ⟨v, rfl, L, hL, hown, hF⟩
  obtain ⟨hE, rfl⟩ := share_111 hL
  rw [hE]
  have hF1 : Fresh w w1 := ((Kept.refl _ w).alloc _).trans hF (fun _ _ e => e)
  obtain ⟨g, cap, rfl⟩ : ∃ g cap, v = .slice (some ⟨g, 0, none⟩) 3 cap := by
    rcases hown.2 with ⟨_, e⟩ | ⟨g', cap', cur, hv, hb, _⟩
    · simp at e
    · exact ⟨g', cap', hv⟩
  have hgl : g < w1.heap.size := owns_lt hown (by simp [Value.ownBlock])
  have c0 : w1.cell? ⟨g, 0, none⟩ = some (zV 2) := hown.cellAt 0 (by decide)
  have c1 : w1.cell? ⟨g, 1, none⟩ = some (zV 1) := hown.cellAt 1 (by decide)
  have c2 : w1.cell? ⟨g, 2, none⟩ = some (zV 1) := hown.cellAt 2 (by decide)
  clear hL hown hF hE HS
  go_wp2_with fail
  refine (HO.out w1).mono ?_
  rintro e w2 ⟨o, b, rfl, hO, hb, hA, hF⟩
  obtain rfl := ord_35 hO
  have hk : Fresh w1 w2 := ((Kept.refl _ w1).alloc _).trans hF (fun _ _ e => e)
  have d0 := (hk.cell (p := ⟨g, 0, none⟩) hgl (fun e => e)).trans c0
  have d1 := (hk.cell (p := ⟨g, 1, none⟩) hgl (fun e => e)).trans c1
  have d2 := (hk.cell (p := ⟨g, 2, none⟩) hgl (fun e => e)).trans c2
  have d3 : w2.cell? ⟨b, 0, none⟩ = some (zV 1) := hA.cell 0
  have HF : Hid (Fresh w w2) := hF1.trans hk (fun _ _ e => e)
  clear hO hA hF hk hF1 HO c0 c1 c2
  go_wp2
  go_ret
  exact ⟨rfl, HF.out⟩
end Go.Proofs.Ytgemkmpepnaoiab
