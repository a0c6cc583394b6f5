/-
  Sub of the program's numbers.
-/
import Derived.Test.YtdmjfmipalifpaaGreatDoorSua
namespace Go.Proofs.YtdmjfmipalifpaaGreatDoor
open Go.RowKit

def sbN (M N : Nat) : Nat := if M < N then 0 else M - N
def sbE (M N : Nat) : Int := if M < N then 40 else 0
theorem sb_in {M N : Nat} (h : ¬ M < N) : sbN M N = M - N ∧ sbE M N = 0 := ⟨if_neg h, if_neg h⟩
theorem sb_out {M N : Nat} (h : M < N) : sbN M N = 0 ∧ sbE M N = 40 := ⟨if_pos h, if_pos h⟩
theorem sb_bl {M : Nat} (N : Nat) (h : bl M ≤ 65536) : bl (sbN M N) ≤ 65536 := by
  unfold sbN
  split
  · exact Nat.zero_le _
  · exact Nat.le_trans (bl_mono (Nat.sub_le _ _)) h

set_option maxHeartbeats 1000000 in
set_option maxRecDepth 100000 in
theorem natSub_any (xv yv : Value) (M N : Nat) (w : World) (hx : Nm w xv M) (hy : Nm w yv N) (hb : bl M ≤ 65536) :
    Calls Tryz.prog 26 #[.agg #[xv], .agg #[yv]] w fun e w' => ∃ v', e = .returned (.tuple #[.agg #[v'], .int .i64 (sbE M N)]) ∧ (Nm w' v' (sbN M N) ∧ Fresh w w') := by
  have hcm := fun W (hF : Fresh w W) => natCompare_any xv yv M N W (hx.fresh hF) (hy.fresh hF)
  have hmi := fun W (hF : Fresh w W) (hle : N ≤ M) => minus_any xv yv M N W (hx.fresh hF) (hy.fresh hF) (by omega) hle
  obtain ⟨a, n, c, rfl⟩ := hx.shape
  obtain ⟨a2, n2, c2, rfl⟩ := hy.shape
  have hF0 : Fresh w (((w.alloc (.cells #[.slice a n c] 26)).alloc (.cells #[.slice a2 n2 c2] 26)).alloc (.cells #[.slice none 0 0] 26)) := (((Kept.refl _ _).alloc _).alloc _).alloc _
  have hB0 : (((w.alloc (.cells #[.slice a n c] 26)).alloc (.cells #[.slice a2 n2 c2] 26)).alloc (.cells #[.slice none 0 0] 26)).heap[w.heap.size + 1 + 1]? = some (.cells #[.slice none 0 0] 26 (0, 0)) := by
    have := heap_alloc_new ((w.alloc (.cells #[.slice a n c] 26)).alloc (.cells #[.slice a2 n2 c2] 26)) (.cells #[.slice none 0 0] 26)
    simpa using this
  have hX0 : (((w.alloc (.cells #[.slice a n c] 26)).alloc (.cells #[.slice a2 n2 c2] 26)).alloc (.cells #[.slice none 0 0] 26)).heap[w.heap.size]? = some (.cells #[.slice a n c] 26 (0, 0)) := by
    have h1 := heap_alloc_new w (.cells #[.slice a n c] 26)
    exact (((Kept.refl (fun _ => False) (w.alloc (.cells #[.slice a n c] 26))).alloc (.cells #[.slice a2 n2 c2] 26)).alloc (.cells #[.slice none 0 0] 26)).at h1 (fun e => e)
  have hY0 : (((w.alloc (.cells #[.slice a n c] 26)).alloc (.cells #[.slice a2 n2 c2] 26)).alloc (.cells #[.slice none 0 0] 26)).heap[w.heap.size + 1]? = some (.cells #[.slice a2 n2 c2] 26 (0, 0)) := by
    have h1 := heap_alloc_new (w.alloc (.cells #[.slice a n c] 26)) (.cells #[.slice a2 n2 c2] 26)
    have h2 := ((Kept.refl (fun _ => False) ((w.alloc (.cells #[.slice a n c] 26)).alloc (.cells #[.slice a2 n2 c2] 26))).alloc (.cells #[.slice none 0 0] 26)).at h1 (fun e => e)
    simpa using h2
  have HF0 := show Hid _ from hF0
  have HB0 := show Hid _ from hB0
  have HX0 := show Hid _ from hX0
  have HY0 := show Hid _ from hY0
  have HCM : Hid (Unit → _) := fun (_ : Unit) => hcm
  have HMI : Hid (Unit → _) := fun (_ : Unit) => hmi
  clear hx hy hF0 hB0 hX0 hY0 hcm hmi
  by_cases hlt : M < N
  · obtain ⟨e1, e2⟩ := sb_out hlt
    rw [e1, e2]
    have hc := cmpN_lt hlt
    rw [hc] at HCM
    clear e1 e2 hc HMI
    go_enter Tryz.func26, Tryz.ntmps26
    go_wp2_with fail
    refine (HCM.out () _ HF0.out).mono ?_
    rintro e w1 ⟨rfl, hF1⟩
    have hb1 := hF1.at HB0.out (fun e => e)
    have hc1 := Lib.cell_of_heap hb1 0
    rw [show (#[Value.slice none 0 0] : Array Value)[0]? = some (.slice none 0 0) from rfl] at hc1
    have hf1 := Lib.frozen_of_heap hb1 0
    have hset := heap_setCell_same w1 (w.heap.size + 1 + 1) 0 _ _ (.slice none 0 0) hb1
    have r0 := Lib.cell_of_heap hset 0
    rw [show ((#[Value.slice none 0 0] : Array Value).setIfInBounds 0 (.slice none 0 0))[0]? = some (.slice none 0 0) from rfl] at r0
    have R0 := show Hid _ from r0
    have R2 : Hid (Fresh w (w1.setCell ⟨w.heap.size + 1 + 1, 0, none⟩ (.slice none 0 0))) := (HF0.out.trans hF1 (fun _ _ e => e)).setCell (p := ⟨w.heap.size + 1 + 1, 0, none⟩) (fun e => by simp at e; omega) _
    clear hset hb1 hF1 HF0 HB0 HX0 HY0 HCM r0
    go_wp2
    have r0 := R0.out
    exact bodyPost_ret (v := .tuple #[.agg #[.slice none 0 0], .int .i64 40]) (by simp [results, Tryz.results26, go_sem, r0]) rfl ⟨_, rfl, nm_zero _, R2.out⟩
  · obtain ⟨e1, e2⟩ := sb_in hlt
    have hfz := fit_in (N := M - N) (Nat.le_trans (bl_mono (Nat.sub_le _ _)) hb)
    rw [e1, e2]
    have hc : ¬ cmpN M N < 0 := by
      unfold cmpN
      rw [if_neg hlt]
      split <;> omega
    generalize cmpN M N = CC at *
    clear e1 e2
    go_enter Tryz.func26, Tryz.ntmps26
    go_wp2_with fail
    refine (HCM.out () _ HF0.out).mono ?_
    rintro e w0 ⟨rfl, hF0'⟩
    have HG0 : Hid (Fresh w w0) := HF0.out.trans hF0' (fun _ _ e => e)
    have HB1 := show Hid _ from hF0'.at HB0.out (fun e => e)
    have cx := Lib.cell_of_heap (hF0'.at HX0.out (fun e => e)) 0
    rw [show (#[Value.slice a n c] : Array Value)[0]? = some (.slice a n c) from rfl] at cx
    have cy := Lib.cell_of_heap (hF0'.at HY0.out (fun e => e)) 0
    rw [show (#[Value.slice a2 n2 c2] : Array Value)[0]? = some (.slice a2 n2 c2) from rfl] at cy
    clear hF0' HF0 HB0 HX0 HY0 HCM
    go_wp2_with fail
    refine (HMI.out () _ HG0.out (by omega)).mono ?_
    rintro e w1 ⟨v1, rfl, hN1, hF1⟩
    have hnum := number_any _ _ _ hN1
    rw [hfz.1, hfz.2] at hnum
    obtain ⟨a3, n3, c3, rfl⟩ := hN1.shape
    have HB2 := show Hid _ from hF1.at HB1.out (fun e => e)
    have HF1 : Hid (Fresh w w1) := HG0.out.trans hF1 (fun _ _ e => e)
    have HNU : Hid (Unit → _) := fun (_ : Unit) => hnum
    clear hN1 hF1 HB1 HG0 hnum hfz cx cy HMI
    go_wp2_with fail
    refine (HNU.out ()).mono ?_
    rintro e w2 ⟨v2, rfl, hN2, hF2⟩
    obtain ⟨a4, n4, c4, rfl⟩ := hN2.shape
    have hb2 := hF2.at HB2.out (fun e => e)
    have hc2 := Lib.cell_of_heap hb2 0
    rw [show (#[Value.slice none 0 0] : Array Value)[0]? = some (.slice none 0 0) from rfl] at hc2
    have hf2 := Lib.frozen_of_heap hb2 0
    have hset := heap_setCell_same w2 (w.heap.size + 1 + 1) 0 _ _ (.slice a4 n4 c4) hb2
    have r0 := Lib.cell_of_heap hset 0
    rw [show ((#[Value.slice none 0 0] : Array Value).setIfInBounds 0 (.slice a4 n4 c4))[0]? = some (.slice a4 n4 c4) from rfl] at r0
    have R0 := show Hid _ from r0
    have R1 : Hid (Nm (w2.setCell ⟨w.heap.size + 1 + 1, 0, none⟩ (.slice a4 n4 c4)) (.slice a4 n4 c4) (M - N)) := nm_set hN2 hb2 (by decide) _ _
    have R2 : Hid (Fresh w (w2.setCell ⟨w.heap.size + 1 + 1, 0, none⟩ (.slice a4 n4 c4))) := (HF1.out.trans hF2 (fun _ _ e => e)).setCell (p := ⟨w.heap.size + 1 + 1, 0, none⟩) (fun e => by simp at e; omega) _
    clear hset hb2 hN2 hF2 HNU HB2 HF1 r0
    go_wp2
    have r0 := R0.out
    exact bodyPost_ret (v := .tuple #[.agg #[.slice a4 n4 c4], .int .i64 0]) (by simp [results, Tryz.results26, go_sem, r0]) rfl ⟨_, rfl, R1.out, R2.out⟩
end Go.Proofs.YtdmjfmipalifpaaGreatDoor
