/-
  compare of equal numbers; Add and Compare.
-/
import Derived.Test.YtdmjfmipalifpaaGreatDoorCs
import Derived.BigQuiet
import Derived.Deep.QuietTactic
namespace Go.Proofs.YtdmjfmipalifpaaGreatDoor
open Go.RowKit

set_option maxHeartbeats 1000000 in
set_option maxRecDepth 100000 in
theorem compare_eq (xv yv : Value) (N : Nat) (w : World) (hx : Nm w xv N) (hy : Nm w yv N) :
    Calls Tryz.prog 48 #[xv, yv] w fun e w' => e = .returned (.int .i64 0) ∧ ∃ n, w' = w.drewN n := by
  obtain ⟨X, hX, hcX, hvX, _⟩ := hx
  obtain ⟨Y, hY, hcY, hvY, _⟩ := hy
  obtain rfl : X = Y := val_inj (by omega) hX.dg hY.dg hcX hcY (hvX.trans hvY.symm)
  have hXl := hX.len
  obtain ⟨xa, xc, rfl, _, _, hxc, _⟩ := hX
  obtain ⟨ya, yc, rfl, _, _, hyc, _⟩ := hY
  clear hcX hcY hvX hvY
  go_enter Tryz.func48, Tryz.ntmps48
  go_wp2
  go_loopw [5] (fun iv wr => ∃ n : Nat, n ≤ X.length ∧ iv = .int .i64 ((n : Int) - 1) ∧ ∃ k, wr = w.drewN k) (fun iv _ => (intOf iv + 1).toNat)
  case atStart => exact ⟨X.length, by omega, rfl, 0, by simp [World.drewN_zero]⟩
  case round =>
    obtain ⟨n, hn, rfl, k, rfl⟩ := hrel
    rcases Nat.eq_zero_or_pos n with hz | hz
    · subst hz
      clear hxc hyc
      go_wp2
      go_ret
      exact ⟨rfl, _, rfl⟩
    · obtain ⟨i, rfl⟩ : ∃ i, n = i + 1 := ⟨n - 1, by omega⟩
      have e1 : ((i + 1 : Nat) : Int) - 1 = (i : Int) := by omega
      rw [e1]
      obtain ⟨xb, xo, rfl, _, _, hxe⟩ := hxc (fun e => by rw [e] at hn; simp at hn)
      obtain ⟨yb, yo, rfl, _, _, hye⟩ := hyc (fun e => by rw [e] at hn; simp at hn)
      have h1 : ∀ j, (w.drewN j).cell? ⟨xb, xo + i, none⟩ = some (.int .u64 ((X.getD i 0 : Nat) : Int)) := fun j => by rw [World.cell?_drewN]; exact hxe i (by omega)
      have h2 : ∀ j, (w.drewN j).cell? ⟨yb, yo + i, none⟩ = some (.int .u64 ((X.getD i 0 : Nat) : Int)) := fun j => by rw [World.cell?_drewN]; exact hye i (by omega)
      have hdd : ∀ j j', (w.drewN j).drewN j' = w.drewN (j + j') := fun j j' => by rw [World.drewN_drewN]
      have hj0 : (0 : Int) ≤ (i : Int) := by omega
      have hj1 : (i : Int) < (X.length : Int) := by omega
      generalize X.getD i 0 = D at *
      clear hxe hye hxc hyc
      go_wp2
      go_quiet (fail)
      go_wp2
      go_roundw
      case rel => exact ⟨i, by omega, by go_num, _, rfl⟩
      case measure => simp [intOf]

set_option maxHeartbeats 400000 in
set_option maxRecDepth 100000 in
theorem natCompare_eq (xv yv : Value) (N : Nat) (w : World) (hx : Nm w xv N) (hy : Nm w yv N) :
    Calls Tryz.prog 21 #[.agg #[xv], .agg #[yv]] w fun e w' => e = .returned (.int .i64 0) ∧ Fresh w w' := by
  have hc := fun W (hF : Fresh w W) => compare_eq _ _ N W (hx.fresh hF) (hy.fresh hF)
  obtain ⟨a, n, c, rfl⟩ := hx.shape
  obtain ⟨a2, n2, c2, rfl⟩ := hy.shape
  have hB := Bx.made w (.slice a n c) (.slice a2 n2 c2)
  have HB := show Hid _ from hB
  clear hx hy hB
  go_enter Tryz.func21, Tryz.ntmps21
  go_wp2_with fail
  refine (hc _ HB.out.fr).mono ?_
  rintro e w1 ⟨rfl, k, rfl⟩
  have hF := HB.out.fr
  have HF : Hid (Fresh w (((w.alloc (.cells #[.slice a n c] 26)).alloc (.cells #[.slice a2 n2 c2] 26)).drewN k)) := ⟨hF.os, hF.tape, hF.output, hF.size, hF.block⟩
  clear hc hF HB
  go_wp2
  go_ret
  exact ⟨rfl, HF.out⟩

set_option maxHeartbeats 1000000 in
set_option maxRecDepth 100000 in
theorem natAdd_any (xv yv : Value) (M N : Nat) (w : World) (hx : Nm w xv M) (hy : Nm w yv N) (hb : bl M + bl N ≤ 1099511627776) :
    Calls Tryz.prog 23 #[.agg #[xv], .agg #[yv]] w fun e w' => ∃ v', e = .returned (.tuple #[.agg #[v'], .int .i64 (fitE (M + N))]) ∧ (Nm w' v' (fitN (M + N)) ∧ Fresh w w') := by
  have hp := fun W (hF : Fresh w W) => plus_any _ _ M N W (hx.fresh hF) (hy.fresh hF) hb
  obtain ⟨a, n, c, rfl⟩ := hx.shape
  obtain ⟨a2, n2, c2, rfl⟩ := hy.shape
  obtain ⟨FE, hFE⟩ : ∃ x, x = fitE (M + N) := ⟨_, rfl⟩
  rw [← hFE]
  have HFE := show Hid _ from hFE
  have hF0 : Fresh w (((w.alloc (.cells #[.slice a n c] 26)).alloc (.cells #[.slice a2 n2 c2] 26)).alloc (.cells #[.slice none 0 0] 26)) := (((Kept.refl _ _).alloc _).alloc _).alloc _
  have hB0 : (((w.alloc (.cells #[.slice a n c] 26)).alloc (.cells #[.slice a2 n2 c2] 26)).alloc (.cells #[.slice none 0 0] 26)).heap[w.heap.size + 1 + 1]? = some (.cells #[.slice none 0 0] 26 (0, 0)) := by
    have := heap_alloc_new ((w.alloc (.cells #[.slice a n c] 26)).alloc (.cells #[.slice a2 n2 c2] 26)) (.cells #[.slice none 0 0] 26)
    simpa using this
  have HF0 := show Hid _ from hF0
  have HB0 := show Hid _ from hB0
  clear hx hy hFE hF0 hB0
  go_enter Tryz.func23, Tryz.ntmps23
  go_wp2_with fail
  refine (hp _ HF0.out).mono ?_
  rintro e w1 ⟨v1, rfl, hN1, hF1⟩
  have hnum := number_any _ _ _ hN1
  rw [← HFE.out] at hnum
  obtain ⟨a3, n3, c3, rfl⟩ := hN1.shape
  have HB1 := show Hid _ from hF1.at HB0.out (fun e => e)
  have HF1 : Hid (Fresh w w1) := HF0.out.trans hF1 (fun _ _ e => e)
  clear hp hN1 hF1 HB0 HF0
  go_wp2_with fail
  refine hnum.mono ?_
  rintro e w2 ⟨v2, rfl, hN2, hF2⟩
  obtain ⟨a4, n4, c4, rfl⟩ := hN2.shape
  have hb2 := hF2.at HB1.out (fun e => e)
  have hc2 := Lib.cell_of_heap hb2 0
  rw [show (#[Value.slice none 0 0] : Array Value)[0]? = some (.slice none 0 0) from rfl] at hc2
  have hf2 := Lib.frozen_of_heap hb2 0
  have hset := heap_setCell_same w2 (w.heap.size + 1 + 1) 0 _ _ (.slice a4 n4 c4) hb2
  have r0 := Lib.cell_of_heap hset 0
  rw [show ((#[Value.slice none 0 0] : Array Value).setIfInBounds 0 (.slice a4 n4 c4))[0]? = some (.slice a4 n4 c4) from rfl] at r0
  have R1 : Hid (Nm (w2.setCell ⟨w.heap.size + 1 + 1, 0, none⟩ (.slice a4 n4 c4)) (.slice a4 n4 c4) (fitN (M + N))) := nm_set hN2 hb2 (by decide) _ _
  have R2 : Hid (Fresh w (w2.setCell ⟨w.heap.size + 1 + 1, 0, none⟩ (.slice a4 n4 c4))) := (HF1.out.trans hF2 (fun _ _ e => e)).setCell (p := ⟨w.heap.size + 1 + 1, 0, none⟩) (fun e => by simp at e; omega) _
  clear hset hb2 hN2 hF2 hnum HB1 HF1
  go_wp2
  exact bodyPost_ret (v := .tuple #[.agg #[.slice a4 n4 c4], .int .i64 FE]) (by simp [results, Tryz.results23, go_sem, r0]) rfl ⟨_, rfl, R1.out, R2.out⟩
end Go.Proofs.YtdmjfmipalifpaaGreatDoor
