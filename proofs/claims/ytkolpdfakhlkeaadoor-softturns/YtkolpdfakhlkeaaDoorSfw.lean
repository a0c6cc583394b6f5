/-
  Rows held against one another; awake; what the rows' list gives.
-/
import Derived.Test.YtkolpdfakhlkeaaDoorSfL
import Derived.Test.YtkolpdfakhlkeaaDoorSfa
import Derived.Test.YtkolpdfakhlkeaaDoorSfc
import Derived.Test.YtkolpdfakhlkeaaDoorTie
import Derived.Test.YtkolpdfakhlkeaaDoorCards
import Derived.Lib.LaidTab
import Derived.BigQuiet
namespace Go.Proofs.YtkolpdfakhlkeaaDoor
open Go.ChangeShapes Go.WideShapes Go.ChangeAt Go.RowKit Go.Lib Go.Maps

set_option maxHeartbeats 1000000 in
set_option maxRecDepth 100000 in
theorem longs_any (p q : Nat → Prop) (a b : Value) (zs : List Int) (w : World) (ha : Rk .i64 p w a zs) (hb : Rk .i64 q w b zs) :
    Calls Tryd.prog 12 #[a, b] w fun e w' => e = .returned (.bool true) ∧ ∃ n, w' = w.drewN n := by
  obtain ⟨ao, ac, rfl, _⟩ := ha.shape
  obtain ⟨bo, bc, rfl, _⟩ := hb.shape
  obtain ⟨_, _, _, hca⟩ := ha.cells
  obtain ⟨_, _, _, hcb⟩ := hb.cells
  have hmany := ha.many
  obtain ⟨n, hn⟩ : ∃ n, zs.length = n := ⟨_, rfl⟩
  rw [hn] at hca hcb hmany ⊢
  clear ha hb hn
  go_enter Tryd.func12, Tryd.ntmps12
  go_wp2
  go_loopw [5] (fun i wr => ∃ j : Nat, j ≤ n ∧ i = zV j ∧ ∃ n, wr = w.drewN n) (fun i _ => n - (RowKit.intOf i).toNat)
  case atStart => exact ⟨0, Nat.zero_le _, rfl, 0, rfl⟩
  case round =>
    obtain ⟨j, hj, rfl, d, rfl⟩ := hrel
    by_cases hlt : j < n
    · obtain ⟨ab, aoff, rfl, _, _, h1⟩ := hca (by omega)
      obtain ⟨bb, boff, rfl, _, _, h2⟩ := hcb (by omega)
      have g1 := h1 j hlt
      have g2 := h2 j hlt
      have hlt' : (j : Int) < (n : Int) := by omega
      clear h1 h2 hca hcb
      generalize zs.getD j 0 = x at *
      go_wp2_with fail
      go_quiet (fail)
      go_wp2
      go_roundw
      case rel => exact ⟨j + 1, hlt, by go_num, d + nq, rfl⟩
      case measure => simp [RowKit.intOf]; omega
    · obtain rfl : j = n := by omega
      clear hca hcb
      go_wp2
      go_ret
      exact ⟨rfl, d, rfl⟩

set_option maxHeartbeats 1000000 in
set_option maxRecDepth 100000 in
theorem rows_any (p q : Nat → Prop) (a b : Value) (zs : List Int) (w : World) (ha : Rk .i8 p w a zs) (hb : Rk .i8 q w b zs) :
    Calls Tryd.prog 15 #[a, b] w fun e w' => e = .returned (.bool true) ∧ ∃ n, w' = w.drewN n := by
  obtain ⟨ao, ac, rfl, _⟩ := ha.shape
  obtain ⟨bo, bc, rfl, _⟩ := hb.shape
  obtain ⟨_, _, _, hca⟩ := ha.cells
  obtain ⟨_, _, _, hcb⟩ := hb.cells
  have hmany := ha.many
  obtain ⟨n, hn⟩ : ∃ n, zs.length = n := ⟨_, rfl⟩
  rw [hn] at hca hcb hmany ⊢
  clear ha hb hn
  go_enter Tryd.func15, Tryd.ntmps15
  go_wp2
  go_loopw [5] (fun i wr => ∃ j : Nat, j ≤ n ∧ i = zV j ∧ ∃ n, wr = w.drewN n) (fun i _ => n - (RowKit.intOf i).toNat)
  case atStart => exact ⟨0, Nat.zero_le _, rfl, 0, rfl⟩
  case round =>
    obtain ⟨j, hj, rfl, d, rfl⟩ := hrel
    by_cases hlt : j < n
    · obtain ⟨ab, aoff, rfl, _, _, h1⟩ := hca (by omega)
      obtain ⟨bb, boff, rfl, _, _, h2⟩ := hcb (by omega)
      have g1 := h1 j hlt
      have g2 := h2 j hlt
      have hlt' : (j : Int) < (n : Int) := by omega
      clear h1 h2 hca hcb
      generalize zs.getD j 0 = x at *
      go_wp2_with fail
      go_quiet (fail)
      go_wp2
      go_roundw
      case rel => exact ⟨j + 1, hlt, by go_num, d + nq, rfl⟩
      case measure => simp [RowKit.intOf]; omega
    · obtain rfl : j = n := by omega
      clear hca hcb
      go_wp2
      go_ret
      exact ⟨rfl, d, rfl⟩

theorem own_newK (k : IntKind) (e : TypeId) (W : World) (l : List Int) (hl : l.length ≤ 1000) : (W.alloc (.cells (l.map (Value.int k)).toArray e)).ownsRow W.heap.size e 1 (.slice (some ⟨W.heap.size, 0, none⟩) l.length l.length) l.length (l.map (Value.int k)) :=
  ⟨by simp, .inr ⟨_, _, _, rfl, Nat.le_refl _, heap_alloc_new W _, Nat.le_refl _, by unfold maxLen; omega, by simp, by simp [List.take_of_length_le]⟩⟩
theorem awake_num : wE ([0, 256] : List Int).length = 0 ∧ woL [0, 256] = [536870912, 1073741824] ∧ meE [1, 1] ([3, 4] : List Int).length = 0 ∧ meV [1, 1] [3, 4] = 4 := by decide +kernel

set_option maxHeartbeats 2000000 in
set_option maxRecDepth 100000 in
theorem awake_any (w : World) (hB : Bend w) : Calls Tryd.prog 11 #[] w fun e w' => e = .returned (.bool true) ∧ Fresh w w' := by
  have f1 : Fresh w (w.alloc (.cells #[.int .i64 0, .int .i64 256] 2)) := (Kept.refl _ w).alloc _
  have HT : Hid (Unit → _) := fun (_ : Unit) => Weights_any _ _ [0, 256] _ (hB.fresh f1) (rk_of_own (own_newK .i64 2 w [0, 256] (by decide)) (by simp [kb]) (by simp [Fit, I64]))
  rw [awake_num.1, awake_num.2.1] at HT
  have HF1 : Hid (Fresh w (w.alloc (.cells #[.int .i64 0, .int .i64 256] 2))) := f1
  have HM : Hid (∀ W : World, _) := fun (W : World) => Mean_any _ _ _ _ [1, 1] [3, 4] ((W.alloc (.cells #[.int .i64 1, .int .i64 1] 2)).alloc (.cells #[.int .i8 3, .int .i8 4] 32)) ((rk_of_own (own_newK .i64 2 W [1, 1] (by decide)) (by simp [kb]) (by simp [Fit, I64])).fresh ((Kept.refl _ _).alloc _)) (rk_of_own (own_newK .i8 32 (W.alloc (.cells #[.int .i64 1, .int .i64 1] 2)) [3, 4] (by decide)) (by simp [kb]) (by simp [Fit, C8]))
  rw [awake_num.2.2.1, awake_num.2.2.2] at HM
  simp only [World.size_alloc] at HM
  clear f1 hB
  go_enter Tryd.func11, Tryd.ntmps11
  go_wp2_with fail
  refine (HT.out ()).mono ?_
  rintro e w1 ⟨v, rfl, hown, hF⟩
  have HF : Hid (Fresh w w1) := HF1.out.trans hF (fun _ _ e => e)
  obtain ⟨g, cap, rfl⟩ : ∃ g cap, v = .slice (some ⟨g, 0, none⟩) 2 cap := by
    rcases hown.2 with ⟨_, e⟩ | ⟨g', cap', cur, hv, hb, _⟩
    · simp at e
    · exact ⟨g', cap', hv⟩
  have c0 : w1.cell? ⟨g, 0, none⟩ = some (.int .i64 536870912) := hown.cellAt 0 (by decide)
  have c1 : w1.cell? ⟨g, 1, none⟩ = some (.int .i64 1073741824) := hown.cellAt 1 (by decide)
  have hg := (own_block hown).2.1
  have HMC : Hid (Unit → _) := fun (_ : Unit) => HM.out w1
  have HC : Hid (∀ W, Fresh w1 W → W.cell? ⟨g, 0, none⟩ = some (.int .i64 536870912) ∧ W.cell? ⟨g, 1, none⟩ = some (.int .i64 1073741824)) := fun W hW => ⟨(hW.cell (p := ⟨g, 0, none⟩) hg (fun e => e)).trans c0, (hW.cell (p := ⟨g, 1, none⟩) hg (fun e => e)).trans c1⟩
  have HF2 : Hid (Fresh w1 ((w1.alloc (.cells #[.int .i64 1, .int .i64 1] 2)).alloc (.cells #[.int .i8 3, .int .i8 4] 32))) := ((Kept.refl _ w1).alloc _).alloc _
  clear hown hF HT HM c0 c1 hg HF1
  go_wp2_with fail
  refine (HMC.out ()).mono ?_
  rintro e w2 ⟨rfl, d2, hw2⟩
  have hF2 : Fresh w1 w2 := by rw [hw2]; exact HF2.out.drewN d2
  obtain ⟨c0, c1⟩ := HC.out w2 hF2
  have HF3 : Hid (Fresh w w2) := HF.out.trans hF2 (fun _ _ e => e)
  clear HMC HC HF2 hF2 hw2 HF
  go_wp2
  go_ret
  exact ⟨rfl, HF3.out⟩
end Go.Proofs.YtkolpdfakhlkeaaDoor
