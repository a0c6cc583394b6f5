/-
  Rows held against one another; awake; what the rows' list gives.
-/
import Derived.Test.YtkemaofclahaiaaDoorRob
import Derived.Test.YtkemaofclahaiaaDoorTie
import Derived.Test.YtkemaofclahaiaaDoorCards
namespace Go.Proofs.YtkemaofclahaiaaDoor
open Go.ChangeShapes Go.WideShapes Go.ChangeAt Go.RowKit Go.Lib Go.Maps

set_option maxHeartbeats 1000000 in
set_option maxRecDepth 100000 in
theorem same_any (p q : Nat → Prop) (a b : Value) (zs : List Int) (w : World) (ha : Rk .i8 p w a zs) (hb : Rk .i8 q w b zs) :
    Calls Tryd.prog 12 #[a, b] w fun e w' => e = .returned (.bool true) ∧ ∃ n, w' = w.drewN n := by
  obtain ⟨ao, ac, rfl, _⟩ := ha.shape
  obtain ⟨bo, bc, rfl, _⟩ := hb.shape
  obtain ⟨_, _, _, hca⟩ := ha.cells
  obtain ⟨_, _, _, hcb⟩ := hb.cells
  have hmany := ha.many
  obtain ⟨n, hn⟩ : ∃ n, zs.length = n := ⟨_, rfl⟩
  rw [hn] at hca hcb hmany ⊢
  clear ha hb hn
  go_enter Tryd.func12, Tryd.ntmps12
  go_wp2
  go_loopw [13] (fun i wr => ∃ j : Nat, j ≤ n ∧ i = zV j ∧ ∃ n, wr = w.drewN n) (fun i _ => n - (RowKit.intOf i).toNat)
  case atStart => exact ⟨0, Nat.zero_le _, rfl, 0, rfl⟩
  case round =>
    obtain ⟨j, hj, rfl, d, rfl⟩ := hrel
    by_cases hlt : j < n
    · obtain ⟨ab, aoff, rfl, _, _, h1⟩ := hca (by omega)
      obtain ⟨bb, boff, rfl, _, _, h2⟩ := hcb (by omega)
      have g1 := h1 j hlt
      have g2 := h2 j hlt
      have hlt' : (j : Int) < (n : Int) := by omega
      clear h1 h2 hca hcb
      generalize zs.getD j 0 = x at *
      go_wp2_with fail
      go_quiet (fail)
      go_wp2
      go_roundw
      case rel => exact ⟨j + 1, hlt, by go_num, d + nq, rfl⟩
      case measure => simp [RowKit.intOf]; omega
    · obtain rfl : j = n := by omega
      clear hca hcb
      go_wp2
      go_ret
      exact ⟨rfl, d, rfl⟩

theorem awake_num : toE ([100, 0, 0, 100] : List Int).length 2 [(0 : Int)].length [(64 : Int)].length = 0 ∧ toL 1 [100, 0, 0, 100] 2 [0] [64] = [0, 100, -100, 0] ∧ sn 32 = 45 := by decide
theorem own_new (W : World) (l : List Int) (hl : l.length ≤ 1000) : (W.alloc (.cells (l.map (Value.int .i8)).toArray 33)).ownsRow W.heap.size 33 1 (.slice (some ⟨W.heap.size, 0, none⟩) l.length l.length) l.length (l.map (Value.int .i8)) :=
  ⟨by simp, .inr ⟨_, _, _, rfl, Nat.le_refl _, heap_alloc_new W _, Nat.le_refl _, by unfold maxLen; omega, by simp, by simp [List.take_of_length_le]⟩⟩

set_option maxHeartbeats 2000000 in
set_option maxRecDepth 100000 in
theorem awake_any (w : World) (hS : Sin w) : Calls Tryd.prog 9 #[] w fun e w' => e = .returned (.bool true) ∧ Fresh w w' := by
  obtain ⟨W1, hW1⟩ : ∃ W1, W1 = w.alloc (.cells #[.int .i8 100, .int .i8 0, .int .i8 0, .int .i8 100] 33) := ⟨_, rfl⟩
  obtain ⟨W2, hW2⟩ : ∃ W2, W2 = W1.alloc (.cells #[.int .i8 0] 33) := ⟨_, rfl⟩
  obtain ⟨W3, hW3⟩ : ∃ W3, W3 = W2.alloc (.cells #[.int .i8 64] 33) := ⟨_, rfl⟩
  have f1 : Fresh w W1 := by rw [hW1]; exact (Kept.refl _ w).alloc _
  have f2 : Fresh W1 W2 := by rw [hW2]; exact (Kept.refl _ _).alloc _
  have f3 : Fresh W2 W3 := by rw [hW3]; exact (Kept.refl _ _).alloc _
  have k1 : W1.ownsRow w.heap.size 33 1 (.slice (some ⟨w.heap.size, 0, none⟩) 4 4) 4 (([100, 0, 0, 100] : List Int).map (Value.int .i8)) := by rw [hW1]; exact own_new w [100, 0, 0, 100] (by decide)
  have k2 : W2.ownsRow W1.heap.size 33 1 (.slice (some ⟨W1.heap.size, 0, none⟩) 1 1) 1 (([0] : List Int).map (Value.int .i8)) := by rw [hW2]; exact own_new W1 [0] (by decide)
  have k3 : W3.ownsRow W2.heap.size 33 1 (.slice (some ⟨W2.heap.size, 0, none⟩) 1 1) 1 (([64] : List Int).map (Value.int .i8)) := by rw [hW3]; exact own_new W2 [64] (by decide)
  have s1 : W1.heap.size = w.heap.size + 1 := by rw [hW1]; simp
  have s2 : W2.heap.size = w.heap.size + 1 + 1 := by rw [hW2]; simp; omega
  have k1' := owns_kept (owns_kept k1 f2 (fun _ _ e => e)) f3 (fun _ _ e => e)
  have k2' := owns_kept k2 f3 (fun _ _ e => e)
  rw [s1] at k2'
  rw [s2] at k3
  have HT : Hid (Unit → _) := fun (_ : Unit) => Turn_any _ _ _ _ _ _ [100, 0, 0, 100] [0] [64] 2 W3 (rk_of_own k1' (by simp [kb]) (by simp [Fit, C8])) (rk_of_own k2' (by simp [kb]) (by simp [Fit, C8])) (rk_of_own k3 (by simp [kb]) (by simp [Fit, C8])) ⟨by decide, by decide⟩
  rw [awake_num.1, awake_num.2.1] at HT
  have HF3 : Hid (Fresh w W3) := (f1.trans f2 (fun _ _ e => e)).trans f3 (fun _ _ e => e)
  have HSi : Hid (∀ W, Sin W → _) := fun W hW => Sine_any 32 W hW
  rw [awake_num.2.2] at HSi
  have HSin : Hid (Sin w) := hS
  have hW : ((w.alloc (.cells #[.int .i8 100, .int .i8 0, .int .i8 0, .int .i8 100] 33)).alloc (.cells #[.int .i8 0] 33)).alloc (.cells #[.int .i8 64] 33) = W3 := by rw [hW3, hW2, hW1]
  clear f1 f2 f3 k1 k2 k3 s1 s2 k1' k2' hW1 hW2 hW3 hS
  go_enter Tryd.func9, Tryd.ntmps9
  go_wp2_with fail
  refine (HT.out ()).mono ?_
  rintro e w1 ⟨v, rfl, hown, hF⟩
  have HF : Hid (Fresh w w1) := HF3.out.trans hF (fun _ _ e => e)
  have hR := rk_of_own hown (by simp [kb]) (by simp [Fit, C8])
  have hN := own_new w1 [0, 100, -100, 0] (by decide)
  have hFn : Fresh w1 (w1.alloc (.cells (([0, 100, -100, 0] : List Int).map (Value.int .i8)).toArray 33)) := (Kept.refl _ w1).alloc _
  have HSa : Hid (Unit → _) := fun (_ : Unit) => same_any _ _ _ _ [0, 100, -100, 0] _ (hR.fresh hFn) (rk_of_own hN (by simp [kb]) (by simp [Fit, C8]))
  have HFn : Hid (Fresh w (w1.alloc (.cells (([0, 100, -100, 0] : List Int).map (Value.int .i8)).toArray 33))) := HF.out.trans hFn (fun _ _ e => e)
  clear hR hN hFn hown hF HT HF HF3 hW
  go_wp2_with fail
  refine (HSa.out ()).mono ?_
  rintro e w2 ⟨rfl, n2, hw2⟩
  have HF2 : Hid (Fresh w w2) := by show Fresh _ _; rw [hw2]; exact HFn.out.drewN n2
  clear hw2 HSa HFn
  go_wp2_with fail
  refine (HSi.out _ (HSin.out.fresh HF2.out)).mono ?_
  rintro e w3 ⟨rfl, rfl⟩
  go_wp2
  go_ret
  exact ⟨rfl, HF2.out⟩

theorem gSin : Tryd.prog.globalNamed (Rows.ropeTurnsRow.named.headD "") = some 0 := by kernel_rfl
theorem gSinType : (Tryd.prog.globals[0]?).map (·.type) = some 58 := by kernel_rfl
theorem sin_of_laid {W : World} (h : laidMetH Tryd.prog Rows.ropeTurnsRow.laid W) : Sin W := by
  have ht : Lib.TabIs Tryd.prog W (Rows.ropeTurnsRow.named.headD "") .i8 sT := Lib.tabIs_of_head (rest := []) gSin gSinType Tryd.underlying58 Tryd.underlying33 (by kernel_rfl) (by kernel_rfl) h
  exact fun i hi => ht.cell gSin i hi
end Go.Proofs.YtkemaofclahaiaaDoor
