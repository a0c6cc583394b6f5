/-
  Numbers: number, Of, power, Bits.
-/
import Derived.Test.YtdmjfmipalifpaaGreatDoorWt
namespace Go.Proofs.YtdmjfmipalifpaaGreatDoor
open Go.RowKit

/-- A number that may be too great. -/
def fitN (N : Nat) : Nat := if 65536 < bl N then 0 else N
def fitE (N : Nat) : Int := if 65536 < bl N then 41 else 0
theorem fit_in {N : Nat} (h : bl N ≤ 65536) : fitN N = N ∧ fitE N = 0 := ⟨if_neg (by omega), if_neg (by omega)⟩
theorem fit_out {N : Nat} (h : 65536 < bl N) : fitN N = 0 ∧ fitE N = 41 := ⟨if_pos h, if_pos h⟩

theorem agg1 (w : World) (v : Value) (t : TypeId) : (w.alloc (.cells #[v] t)).cell? ⟨w.heap.size, 0, none⟩ = some v := by
  rw [Lib.cell_of_heap (heap_alloc_new w _)]; rfl

set_option maxHeartbeats 400000 in
set_option maxRecDepth 100000 in
theorem number_any (v : Value) (N : Nat) (w : World) (h : Nm w v N) :
    Calls Tryz.prog 37 #[v] w fun e w' => ∃ v', e = .returned (.tuple #[.agg #[v'], .int .i64 (fitE N)]) ∧ (Nm w' v' (fitN N) ∧ Fresh w w') := by
  obtain ⟨va, vn, vc, rfl⟩ := h.shape
  obtain ⟨L, hL, hc, rfl, _⟩ := h
  have hbits := fun W (hk : Fresh w W) => bits_any _ _ L W (Dw.fresh hL hk) hc
  have HN := show Hid _ from (show Nm w (.slice va vn vc) (val 18446744073709551616 L) from ⟨L, hL, hc, rfl, by assumption⟩)
  clear hL hc
  generalize val 18446744073709551616 L = N at *
  by_cases hf : 65536 < bl N
  · obtain ⟨e1, e2⟩ := fit_out hf
    rw [e1, e2]
    generalize bl N = K at *
    go_enter Tryz.func37, Tryz.ntmps37
    go_wp2_with fail
    refine (hbits _ ((Kept.refl _ _).alloc _)).mono ?_
    rintro e w1 ⟨rfl, rfl⟩
    go_wp2
    have r0 := agg1 w (.slice none 0 0) 26
    exact bodyPost_ret (v := .tuple #[.agg #[.slice none 0 0], .int .i64 41]) (by simp [results, Tryz.results37, go_sem, r0]) rfl ⟨_, rfl, nm_zero _, (Kept.refl _ _).alloc _⟩
  · obtain ⟨e1, e2⟩ := fit_in (N := N) (by omega)
    rw [e1, e2]
    generalize bl N = K at *
    go_enter Tryz.func37, Tryz.ntmps37
    go_wp2_with fail
    refine (hbits _ ((Kept.refl _ _).alloc _)).mono ?_
    rintro e w1 ⟨rfl, rfl⟩
    go_wp2
    have r0 := agg1 w (.slice va vn vc) 26
    exact bodyPost_ret (v := .tuple #[.agg #[.slice va vn vc], .int .i64 0]) (by simp [results, Tryz.results37, go_sem, r0]) rfl ⟨_, rfl, Nm.fresh HN.out ((Kept.refl _ _).alloc _), (Kept.refl _ _).alloc _⟩

set_option maxHeartbeats 400000 in
set_option maxRecDepth 100000 in
theorem of_any (n : Nat) (w : World) (hn : n < 9223372036854775808) :
    Calls Tryz.prog 35 #[.int .i64 n] w fun e w' => ∃ v', e = .returned (.tuple #[.agg #[v'], .int .i64 0]) ∧ (Nm w' v' n ∧ Fresh w w') := by
  have hw := fun W => word_any n W (by omega)
  obtain ⟨f1, f2⟩ := fit_in (N := n) (Nat.le_trans (bl_le (k := 63) (by omega)) (by omega))
  go_enter Tryz.func35, Tryz.ntmps35
  go_wp2_with fail
  refine (hw _).mono ?_
  rintro e w1 ⟨v1, rfl, hN1, hF1⟩
  have hnum := number_any v1 n w1 hN1
  obtain ⟨a1, n1, c1, rfl⟩ := hN1.shape
  rw [f1, f2] at hnum
  have hb0 : w1.heap[w.heap.size]? = some (.cells #[.slice none 0 0] 26 (0, 0)) := hF1.at (heap_alloc_new w _) (fun e => e)
  have HB := show Hid _ from hb0
  have HF := show Hid _ from hF1
  clear hw f1 f2 hN1 hb0 hF1
  go_wp2_with fail
  refine hnum.mono ?_
  rintro e w2 ⟨v2, rfl, hN2, hF2⟩
  obtain ⟨a2, n2, c2, rfl⟩ := hN2.shape
  have hb2 : w2.heap[w.heap.size]? = some (.cells #[.slice none 0 0] 26 (0, 0)) := hF2.at HB.out (fun e => e)
  have hc2 := Lib.cell_of_heap hb2 0
  rw [show (#[Value.slice none 0 0] : Array Value)[0]? = some (.slice none 0 0) from rfl] at hc2
  have hf2 := Lib.frozen_of_heap hb2 0
  have hset := heap_setCell_same w2 w.heap.size 0 _ _ (.slice a2 n2 c2) hb2
  have r0 := Lib.cell_of_heap hset 0
  rw [show ((#[Value.slice none 0 0] : Array Value).setIfInBounds 0 (.slice a2 n2 c2))[0]? = some (.slice a2 n2 c2) from rfl] at r0
  have hF3 : Fresh w (w2.setCell ⟨w.heap.size, 0, none⟩ (.slice a2 n2 c2)) := by
    have h1 : Fresh w w2 := (((Kept.refl _ _).alloc _).trans HF.out (fun _ _ e => e)).trans hF2 (fun _ _ e => e)
    exact h1.setCell (p := ⟨w.heap.size, 0, none⟩) (fun e => by simp at e) _
  have HF3 := show Hid _ from hF3
  have HN3 : Hid (Nm (w2.setCell ⟨w.heap.size, 0, none⟩ (.slice a2 n2 c2)) (.slice a2 n2 c2) n) := nm_set hN2 hb2 (by decide) _ _
  clear hb2 hset hF3 hF2 hN2 HB HF
  go_wp2
  exact bodyPost_ret (v := .tuple #[.agg #[.slice a2 n2 c2], .int .i64 0]) (by simp [results, Tryz.results35, go_sem, r0]) rfl ⟨_, rfl, HN3.out, HF3.out⟩
end Go.Proofs.YtdmjfmipalifpaaGreatDoor
