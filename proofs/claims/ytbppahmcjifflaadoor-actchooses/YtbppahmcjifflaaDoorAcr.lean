/-
  The places of the greatest scores.
-/
import Derived.Test.YtbppahmcjifflaaDoorAcO
import Derived.Test.YtbppahmcjifflaaDoorAcx
import Derived.Shelf.Lay
import Derived.Ground.SlsfProg
import Derived.Lib.SortBridge
namespace Go.Proofs
open Go.Shelf
shelf_lay_g SlLaysF.n6 Slsf 6 at Tryd 53 as Tryd.sortL
end Go.Proofs
namespace Go.Proofs.YtbppahmcjifflaaDoor
open Go.RowKit Go.Lib Go.Maps Go.Sort Go.Shelf

theorem tyI : Ty .i64 3 52 := ⟨Tryd.underlying52, Tryd.underlying3, by kernel_rfl, by kernel_rfl⟩
theorem sorted_kept {α : Type} [Inhabited α] (enc : α → Value) (w : World) (blk off n : Nat) (d : Array α) (os : Array Obj) : Kept (fun b => b = blk) w (sortWorld enc w blk off n d os) := by
  refine ⟨rfl, rfl, rfl, ?_, ?_⟩
  · simp [sortWorld, grow, putRow, mapBlock, Sort.ahead]
  · intro i hi hne
    have h1 : i < (w.heap.modify blk (onCells (putCells enc off d))).size := by rw [Array.size_modify]; exact hi
    show (w.heap.modify blk (onCells (putCells enc off d)) ++ os)[i]? = w.heap[i]?
    rw [Array.getElem?_append_left h1, Array.getElem?_modify, if_neg (fun e => hne e.symm)]
/-- The row of all places. -/
def allP (n : Nat) : Array (Fin n) := (List.finRange n).toArray
theorem allP_size (n : Nat) : (allP n).size = n := by simp [allP]
theorem allP_get {n j : Nat} (h : j < n + 1) : ((allP (n + 1))[j]!).val = j := by
  have h2 : j < (allP (n + 1)).size := by rw [allP_size]; exact h
  rw [getElem!_pos (allP (n + 1)) j h2]
  simp [allP]
def encP (n : Nat) (x : Fin n) : Value := zV (x.val : Int)

set_option maxHeartbeats 1000000 in
set_option maxRecDepth 100000 in
theorem clone_any (p : Nat → Prop) (b off n cap : Nat) (zs : List Int) (w : World) (h : Rk .i64 p w (.slice (some ⟨b, off, none⟩) n cap) zs) :
    Calls Tryd.prog 58 #[.slice (some ⟨b, off, none⟩) n cap] w fun e w' => ∃ v, e = .returned v ∧ Rk .i64 (fun x => w.heap.size ≤ x ∧ x < w'.heap.size) w' v zs ∧ Fresh w w' := by
  obtain ⟨t, W, hr, hF, hR⟩ := copy_of tyI h
  have HX : Hid (Rk .i64 (fun x => w.heap.size ≤ x ∧ x < W.heap.size) W t zs ∧ Fresh w W) := ⟨hR, hF⟩
  obtain ⟨ao, ac, rfl, _⟩ := hR.shape
  have he : ∀ W : World, Sem.run Tryd.prog (binOp .eql 52 (.slice (some ⟨b, off, none⟩) n cap) (.slice none 0 0)) W = .ok (.bool false) W := fun W => Lib.run_eql_slice_nil W _ _ _ _ _ 0 0 Tryd.underlying52
  clear h hR hF
  go_enter Tryd.func58, Tryd.ntmps58
  go_wp2_with (at_builtin; refine Lib.wpList_append_run _ rfl _ _ _ _ rfl _ _ rfl rfl _ _ hr ?_; clear hr)
  go_ret
  exact ⟨_, rfl, HX.out⟩

set_option maxHeartbeats 2000000 in
set_option maxRecDepth 100000 in
theorem greatest_any (p : Nat → Prop) (v : Value) (zs : List Int) (k : Nat) (w : World) (h : Rk .i64 p w v zs) (hk1 : 1 ≤ k) (hk : k ≤ zs.length) (hn : zs.length ≤ 1048576) :
    Calls Tryd.prog 34 #[v, zV k] w fun e w' => ∃ o v', e = .returned v' ∧ IsOrd (fun i => zs.getD i 0) zs.length o ∧ Rk .i64 (fun x => w.heap.size ≤ x ∧ x < w'.heap.size) w' v' (upI (o.take k)) ∧ Fresh w w' := by
  obtain ⟨ao, ac, rfl, _⟩ := h.shape
  obtain ⟨m, hm⟩ : ∃ m, zs.length = m + 1 := ⟨zs.length - 1, by omega⟩
  obtain ⟨b1, off1, rfl, _, hb1, hcell⟩ := h.cells.2.2.2 (by omega)
  obtain ⟨W0, hW0⟩ : ∃ W0, w.alloc (.cells #[.slice (some ⟨b1, off1, none⟩) zs.length ac] 38) = W0 := ⟨_, rfl⟩
  have hF0 : Fresh w W0 := by rw [← hW0]; exact (Kept.refl _ _).alloc _
  have hz0 : W0.heap.size = w.heap.size + 1 := by rw [← hW0, World.size_alloc]
  have p0 : W0.heap[w.heap.size]? = some (.cells #[.slice (some ⟨b1, off1, none⟩) zs.length ac] 38 (0, 0)) := by rw [← hW0]; exact heap_alloc_new w _
  have c0 : W0.cell? ⟨w.heap.size, 0, none⟩ = some (.slice (some ⟨b1, off1, none⟩) zs.length ac) := by rw [Lib.cell_of_heap p0]; rfl
  have HBox : Hid (∀ S W, Kept S W0 W → (∀ b, b < W0.heap.size → ¬ S b) → W.cell? ⟨w.heap.size, 0, none⟩ = some (.slice (some ⟨b1, off1, none⟩) zs.length ac) ∧ ∀ i, i < zs.length → W.cell? ⟨b1, off1 + i, none⟩ = some (zV (zs.getD i 0))) := fun S W hk hS =>
    ⟨(hk.cell (p := ⟨w.heap.size, 0, none⟩) (show w.heap.size < W0.heap.size by omega) (hS _ (show w.heap.size < W0.heap.size by omega))).trans c0, fun i hi => (hk.cell (p := ⟨b1, off1 + i, none⟩) (show b1 < W0.heap.size by omega) (hS _ (show b1 < W0.heap.size by omega))).trans ((hF0.cell (p := ⟨b1, off1 + i, none⟩) hb1 (fun e => e)).trans (hcell i hi))⟩
  have HFil := Fil.start (k := .i64) (e := 3) W0 zs.length (fun i => (i : Int)) (by omega)
  have hmk := run_mk tyI zs.length zs.length (Nat.le_refl _) (by simp [kb]; omega) W0
  generalize W0.alloc (.cells ((List.replicate zs.length (0 : Int)).map (Value.int .i64)).toArray 3) = W1 at *
  have HW1 : Hid _ := HFil
  have HSort : Hid (∀ wr, Fil .i64 3 W0 zs.length (fun i => (i : Int)) zs.length wr → Calls Tryd.prog 53 #[.slice (some ⟨W0.heap.size, 0, none⟩) zs.length zs.length, .func (.func 54) #[] #[.pointer (some ⟨w.heap.size, 0, none⟩)]] wr fun e w' => e = .returned (.tuple #[]) ∧ (∀ j, j < zs.length → w'.cell? ⟨W0.heap.size, j, none⟩ = some (zV ((upI ((srt zs zs.length).map Fin.val)).getD j 0))) ∧ Kept (fun b => b = W0.heap.size) wr w') := fun wr hf => by
    obtain ⟨v0, e0, ho, hFr⟩ := hf.done 0
    have ev : Value.slice (some ⟨W0.heap.size, 0, none⟩) zs.length zs.length = v0 := by injection e0 with e0; injection e0 with e0; simpa using e0
    subst ev
    rw [mkL_len] at ho
    have hbk := own_block ho
    have hbox := HBox.out _ wr hFr (fun _ _ e => e)
    have hH : Holds (encP (m + 1)) wr W0.heap.size 0 (allP (m + 1)) := fun j hj => by
      rw [allP_size] at hj
      have h1 := own_get ho j (by omega)
      rw [mkL_get (by omega)] at h1
      refine ⟨?_, ?_⟩
      · unfold encP
        rw [allP_get hj, Nat.zero_add]
        exact h1
      · rw [Nat.zero_add]
        exact own_frozen ho j
    have hcmp : CmpLays1 Tryd.prog 54 #[.pointer (some ⟨w.heap.size, 0, none⟩)] (encP (m + 1)) (cfP zs (m + 1)) W0.heap.size 0 (allP (m + 1)).size wr := fun q os dk hdk x y => by
      have hkk := sorted_kept (encP (m + 1)) wr W0.heap.size 0 q dk os
      have hb2 := HBox.out (fun b => b = W0.heap.size) (sortWorld (encP (m + 1)) wr W0.heap.size 0 q dk os) ((hFr.mono (S' := fun b => b = W0.heap.size) (fun _ _ (e : False) => e.elim)).trans hkk (fun _ _ e => e)) (fun b hb e => by omega)
      exact closure_any w.heap.size b1 off1 zs.length ac x.val y.val _ _ _ (by have := x.isLt; omega) (by have := y.isLt; omega) hb2.1 (hb2.2 x.val (by have := x.isLt; omega)) (hb2.2 y.val (by have := y.isLt; omega))
    have hS := Any.slices_SortFunc_total Tryd.sortL (encP (m + 1)) (fun _ => rfl) (cfP zs (m + 1)) (swoP zs (m + 1)) 54 #[.pointer (some ⟨w.heap.size, 0, none⟩)] W0.heap.size 0 (m + 1) (allP (m + 1)) wr (enters_of Tryd.func54 (by kernel_rfl) rfl) hcmp hH hbk.2.1 (by rw [allP_size]; omega) (totP zs (m + 1))
    rw [allP_size] at hS
    rw [hm]
    refine hS.mono ?_
    rintro e w' ⟨rfl, q, os, rfl⟩
    refine ⟨rfl, fun j hj => ?_, sorted_kept _ _ _ _ _ _ _⟩
    have hsz : ((allP (m + 1)).toList.mergeSort fun x y => !ltOf (cfP zs (m + 1)) y x).toArray.size = (allP (m + 1)).size := by simp
    have h9 := (holds_sortWorld (encP (m + 1)) wr W0.heap.size 0 q (allP (m + 1)) _ os hbk.2.1 hH hsz j (by rw [hsz, allP_size]; exact hj)).1
    rw [Nat.zero_add] at h9
    refine h9.trans ?_
    have hl : j < (srt zs (m + 1)).length := by rw [srt_len]; exact hj
    have e1 : ((allP (m + 1)).toList.mergeSort fun x y => !ltOf (cfP zs (m + 1)) y x) = srt zs (m + 1) := rfl
    rw [e1]
    unfold encP upI
    rw [getElem!_pos _ j (by simpa using hl), List.getD_eq_getElem?_getD, List.getElem?_map, List.getElem?_map, List.getElem?_eq_getElem hl]
    rfl
  have HO : Hid (IsOrd (fun i => zs.getD i 0) zs.length ((srt zs zs.length).map Fin.val)) := srt_ord zs zs.length
  generalize (srt zs zs.length).map Fin.val = o at *
  have hol := HO.out.length
  have HU : Hid ((upI o).length = zs.length ∧ ∀ z ∈ upI o, Fit .i64 z) := ⟨by rw [upI_length, hol], fun z hz => by
    obtain ⟨i, hi, rfl⟩ := List.mem_map.1 hz
    have := HO.out.lt hi
    exact ⟨by omega, by omega⟩⟩
  have HF0 : Hid (Fresh w W0) := hF0
  have hkk : (k : Int) ≤ (zs.length : Int) := by omega
  clear hcell h hF0 p0 HBox hol HFil
  generalize hnn : zs.length = n at *
  have HZ0 : Hid (W0.heap.size = w.heap.size + 1) := hz0
  clear hm hz0 hb1
  go_enter Tryd.func34, Tryd.ntmps34
  go_wp2
  clear hmk hW0 c0
  go_loopw [12] (fun iv wr => ∃ j : Nat, j ≤ n ∧ iv = zV j ∧ Hid (Fil .i64 3 W0 n (fun i => (i : Int)) j wr)) (fun iv _ => n - (RowKit.intOf iv).toNat)
  case atStart => exact ⟨0, Nat.zero_le _, rfl, HW1.out⟩
  case round =>
    obtain ⟨j, hj, rfl, HA⟩ := hrel
    clear HW1
    by_cases hlt : j < n
    · have hlt' : (j : Int) < (n : Int) := by omega
      have f3 := own_frozen HA.out.1 j
      have g3 := own_get HA.out.1 j hlt
      have HX : Hid _ := HA.out.next hlt
      clear HA HSort
      go_wp2
      go_roundw
      case rel => exact ⟨j + 1, hlt, by go_num, HX.out⟩
      case measure => simp [RowKit.intOf]; omega
    · obtain rfl : j = n := by omega
      have HS : Hid (Unit → _) := fun (_ : Unit) => HSort.out wr HA.out
      clear HSort
      go_wp2_with fail
      refine (HS.out ()).mono ?_
      rintro e w2 ⟨rfl, hc2, hk2⟩
      have hfr := HA.out.2
      have hbk := own_block HA.out.1
      have hFw : Fresh W0 w2 := hfr.trans hk2 (fun i hi e => by omega)
      have hR2 : Rk .i64 (fun x => x = W0.heap.size) w2 (.slice (some ⟨W0.heap.size, 0, none⟩) k j) ((upI o).take k) := by
        have hl : ((upI o).take k).length = k := by rw [List.length_take, HU.out.1]; omega
        refine ⟨some ⟨W0.heap.size, 0, none⟩, j, by rw [hl], by rw [hl]; simp [kb]; omega, fun _ => ⟨W0.heap.size, 0, rfl, rfl, by have := hk2.size; omega, fun i hi => ?_⟩, fun z hz => HU.out.2 z (List.mem_of_mem_take hz), fun e => (by cases e), by rw [hl]; omega⟩
        rw [hl] at hi
        rw [Nat.zero_add, List.getD_eq_getElem?_getD, List.getElem?_take_of_lt hi, ← List.getD_eq_getElem?_getD]
        exact hc2 i (by omega)
      have HCl : Hid (Unit → _) := fun (_ : Unit) => clone_any _ _ _ _ _ _ w2 hR2
      have HF2 : Hid (Fresh w w2) := HF0.out.trans hFw (fun _ _ e => e)
      clear hc2 hk2 hfr hbk hFw hR2 HA HS
      go_wp2_with fail
      refine (HCl.out ()).mono ?_
      rintro e w3 ⟨v3, rfl, hR3, hF3⟩
      have HX : Hid (Rk .i64 (fun x => w.heap.size ≤ x ∧ x < w3.heap.size) w3 v3 (upI (o.take k)) ∧ Fresh w w3) := by
        refine ⟨?_, HF2.out.trans hF3 (fun _ _ e => e)⟩
        rw [show upI (o.take k) = (upI o).take k by simp [upI]]
        exact hR3.mono (fun b hb => ⟨by have := HF2.out.size; omega, hb.2⟩)
      clear hR3 hF3 HCl
      go_wp2
      go_ret
      exact ⟨_, _, rfl, HO.out, HX.out⟩
end Go.Proofs.YtbppahmcjifflaaDoor
