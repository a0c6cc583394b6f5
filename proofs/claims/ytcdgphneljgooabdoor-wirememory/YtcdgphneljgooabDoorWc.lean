/-
  What strings.Clone and the calls of package wire's Reader do, each told of cells.
-/
import Derived.Test.YtcdgphneljgooabDoorWb
import Derived.Lib.BufferWrite
import Derived.Lib.Hide
import Derived.Lib.Walk
import Derived.Laws.MakeOwn
namespace Go.Proofs.YtcdgphneljgooabDoor
open Go.RowKit

set_option maxHeartbeats 1000000 in
set_option maxRecDepth 100000 in
/-- A copy of a text: the same bytes; nothing that was there has turned. -/
theorem sclone_any (s : ByteArray) (w : World) (hlim : s.size ≤ 281474976710656) :
    Calls Tryd.prog 61 #[.string s] w fun e w' => e = .returned (.string s) ∧ Fresh w w' := by
  by_cases h0 : s.size = 0
  · have hs : s = ⟨#[]⟩ := ByteArray.ext (Array.eq_empty_of_size_eq_zero h0)
    subst hs
    go_enter Tryd.func61, Tryd.ntmps61
    go_wp2
    go_ret
    exact ⟨rfl, Kept.refl _ _⟩
  · obtain ⟨i0, hi, hz0, hz1, hz2⟩ := info_parts Tryd.infoB
    have hinfo : (Tryd.prog.info? 5).map (·.size) = some 1 := by rw [hi]; simp [hz1]
    have hco : Tryd.prog.cellsOf 5 = 1 := by simp [Program.cellsOf, hi, hz1]
    obtain ⟨M, hM⟩ : ∃ M, M = madeCells (Value.int .u8 0).cells (((s.size : Nat) : Int).toNat * i0.size) := ⟨_, rfl⟩
    have hMs : M.size = s.size := by rw [hM, size_madeCells, hz1]; simp
    have hmk : ∀ W : World, (Instr.makeSlice 73 (.int .i64 (s.size : Int)) (.int .i64 (s.size : Int))).run Tryd.prog W = .ok (.slice (some ⟨W.heap.size, 0, none⟩) s.size s.size) (W.alloc (.cells M 5)) := fun W => by
      have h := run_make (P := Tryd.prog) W 73 5 i0 (.int .u8 0) Tryd.underlying73 hi hz0 .i64 .i64 (s.size : Int) (s.size : Int) (by omega) (by omega) (by rw [hz2]; omega) (by omega)
      rw [← hM] at h
      simpa using h
    clear hM
    have hcp := Lib.run_copy_row_string (P := Tryd.prog) (w.alloc (.cells M 5)) 73 9 3 5 w.heap.size 0 s.size s.size s M 5 Tryd.underlying73 hinfo (heap_alloc_new w _) (Nat.le_refl _) (by omega)
    obtain ⟨Y, hY⟩ : ∃ Y, Y = (M.toList.take 0 ++ Lib.byteCells s.data.toList ++ M.toList.drop (0 + s.size)).toArray := ⟨_, rfl⟩
    rw [← hY] at hcp
    have hYl : Y.toList = Lib.byteCells s.data.toList := by
      rw [hY, List.toList_toArray, List.take_zero, List.nil_append, List.drop_of_length_le (by rw [Array.length_toList]; omega), List.append_nil]
    have hYs : Y.size = s.size := by rw [← Array.length_toList, hYl, Lib.byteCells_length, ← Lib.size_eq]
    have hgY : ((w.alloc (.cells M 5)).setRow w.heap.size Y).heap[w.heap.size]? = some (.cells Y 5 (0, 0)) := setRow_heap _ _ M _ 5 (0, 0) (heap_alloc_new w _)
    have hne : s.data.toList ≠ [] := fun e => h0 (by rw [Lib.size_eq, e]; rfl)
    have hUS := Lib.run_unsafeString_row (P := Tryd.prog) ((w.alloc (.cells M 5)).setRow w.heap.size Y) 102 3 9 5 Tryd.underlying102 hco w.heap.size Y.size (by unfold World.shape?; rw [hgY]) s.data.toList hne (by rw [← Lib.size_eq]; omega) (by rw [← Lib.size_eq]; omega)
      (fun j x hx => Lib.cells_of_row hgY Y.size j _ (by rw [List.take_of_length_le (by rw [Array.length_toList]; exact Nat.le_refl _), hYl]; simp [Lib.byteCells, hx]))
    rw [← Lib.size_eq] at hUS
    clear hY
    go_enter Tryd.func61, Tryd.ntmps61
    go_wp2
    go_ret
    have hb1 : Below w.heap.size w (w.alloc (.cells M 5)) := (Below.refl _ w).alloc (Nat.le_refl _) _
    have hb2 : Below w.heap.size (w.alloc (.cells M 5)) ((w.alloc (.cells M 5)).setRow w.heap.size Y) := ⟨rfl, rfl, rfl, by simp, fun k hk => setRow_other _ _ _ _ (by omega)⟩
    exact ⟨rfl, Kept.ofBelow (Lib.below_freeze (hb1.trans hb2) (p := ⟨w.heap.size, 0, none⟩) (Nat.le_refl _) _) (fun i hi h => by omega)⟩

set_option maxHeartbeats 400000 in
theorem clone_any (s : ByteArray) (w : World) (hlim : s.size ≤ 281474976710656) :
    Calls Tryd.prog 49 #[.string s] w fun e w' => e = .returned (.string s) ∧ Fresh w w' := by
  go_enter Tryd.func49, Tryd.ntmps49
  go_wp2_with fail
  refine (sclone_any s _ hlim).mono ?_
  rintro e w1 ⟨rfl, hk⟩
  go_wp2
  go_ret
  exact ⟨rfl, hk⟩

/-- A reader lies in block b: of the text s, at the place i. -/
def RdAt (w : World) (b : Nat) (s : ByteArray) (i : Nat) : Prop :=
  w.heap[b]? = some (.cells #[.string s, .int .i64 i] 80 (0, 0)) ∧ i ≤ s.size ∧ s.size ≤ 281474976710656

theorem RdAt.kept {S : Nat → Prop} {w w' : World} {b : Nat} {s : ByteArray} {i : Nat} (h : RdAt w b s i) (hk : Kept S w w') (hb : ¬ S b) : RdAt w' b s i := ⟨hk.at h.1 hb, h.2⟩
theorem RdAt.c0 {w : World} {b : Nat} {s : ByteArray} {i : Nat} (h : RdAt w b s i) : w.cell? ⟨b, 0, none⟩ = some (.string s) := by simp [World.cell?, h.1]
theorem RdAt.c1 {w : World} {b : Nat} {s : ByteArray} {i : Nat} (h : RdAt w b s i) : w.cell? ⟨b, 1, none⟩ = some (.int .i64 i) := by simp [World.cell?, h.1]
theorem RdAt.f1 {w : World} {b : Nat} {s : ByteArray} {i : Nat} (h : RdAt w b s i) : w.frozen? ⟨b, 1, none⟩ = false := by simp [World.frozen?, h.1]
theorem RdAt.set {w : World} {b : Nat} {s : ByteArray} {i : Nat} (h : RdAt w b s i) (j : Nat) (hj : j ≤ s.size) : RdAt (w.setCell ⟨b, 1, none⟩ (.int .i64 j)) b s j :=
  ⟨by rw [Lib.heap_setCell_same h.1]; rfl, hj, h.2.2⟩

set_option maxHeartbeats 400000 in
theorem newReader_any (s : ByteArray) (w : World) (hlim : s.size ≤ 281474976710656) :
    Calls Tryd.prog 23 #[.string s] w fun e w' => ∃ b, e = .returned (.pointer (some ⟨b, 0, none⟩)) ∧ w.heap.size ≤ b ∧ RdAt w' b s 0 ∧ Fresh w w' := by
  go_enter Tryd.func23, Tryd.ntmps23
  go_wp2_with fail
  refine (clone_any s _ hlim).mono ?_
  rintro e w1 ⟨rfl, hk⟩
  go_wp2
  go_ret
  exact ⟨w1.heap.size, rfl, hk.size, ⟨heap_alloc_new w1 _, Nat.zero_le _, hlim⟩, hk.alloc _⟩

set_option maxHeartbeats 400000 in
theorem rat_any (b : Nat) (s : ByteArray) (i : Nat) (w : World) (h : RdAt w b s i) :
    Calls Tryd.prog 19 #[.pointer (some ⟨b, 0, none⟩)] w fun e w' => e = .returned (.int .i64 i) ∧ w' = w := by
  have h1 := h.c1
  go_enter Tryd.func19, Tryd.ntmps19
  go_wp2
  go_ret
  exact ⟨rfl, rfl⟩

set_option maxHeartbeats 400000 in
theorem rleft_any (b : Nat) (s : ByteArray) (i : Nat) (w : World) (h : RdAt w b s i) :
    Calls Tryd.prog 20 #[.pointer (some ⟨b, 0, none⟩)] w fun e w' => e = .returned (.int .i64 ((s.size - i : Nat) : Int)) ∧ ∃ n, w' = w.drewN n := by
  have h0 := h.c0
  have h1 := h.c1
  have h2 := h.2.1
  have h3 := h.2.2
  go_enter Tryd.func20, Tryd.ntmps20
  go_wp2_with fail
  go_quiet (fail)
  go_wp2
  go_ret
  exact ⟨ret_int (by omega), nq, rfl⟩

theorem RdAt.drewN {w : World} {b : Nat} {s : ByteArray} {i : Nat} (h : RdAt w b s i) (n : Nat) : RdAt (w.drewN n) b s i := ⟨h.1, h.2⟩
theorem Kept.drewN {S : Nat → Prop} {a w : World} (h : Kept S a w) (n : Nat) : Kept S a (w.drewN n) := ⟨h.os, h.tape, h.output, h.size, h.block⟩
theorem Siz.drewN {w : World} (h : Siz w) (n : Nat) : Siz (w.drewN n) := h

set_option maxHeartbeats 400000 in
theorem rfixed_any (s : ByteArray) (k : Nat) (w : World) (hk : k ≤ 8) (hks : k ≤ s.size) (hs : s.size ≤ 281474976710656) :
    Calls Tryd.prog 46 #[.string s, .int .i64 k] w fun e w' => e = .returned (.int .u64 (unle (s.data.toList.take k))) ∧ w' = w := by
  go_enter Tryd.func46, Tryd.ntmps46
  go_wp2
  go_loop [5, 8] (fun n i => ∃ j : Nat, j ≤ k ∧ i = .int .i64 j ∧ n = .int .u64 (unle (s.data.toList.take j))) (fun _ i => k - (intOf i).toNat)
  case atStart => exact ⟨0, Nat.zero_le _, rfl, rfl⟩
  case round =>
    obtain ⟨j, hj, rfl, rfl⟩ := hrel
    by_cases hlt : j < k
    · have hb := or_byte (unle (s.data.toList.take j)) j (s[j]'(by omega)) (by have h := unle_lt (s.data.toList.take j); rw [List.length_take_of_le (by rw [← Lib.size_eq]; omega)] at h; exact h) (by omega)
      have hu : unle (s.data.toList.take (j + 1)) = unle (s.data.toList.take j) + (s[j]'(by omega)).toNat * 256 ^ j := by
        rw [take_snoc s j (by omega), unle_snoc, List.length_take_of_le (by rw [← Lib.size_eq]; omega)]
      have hjs : j < s.size := by omega
      rw [← hu] at hb
      have HB : Hid _ := hb
      have HU : Hid _ := hu
      clear hb hu
      generalize unle (s.data.toList.take j) = x at *
      go_wp2
      go_round
      case rel => exact ⟨j + 1, by omega, by go_num, by rw [HB.out]⟩
      case measure => simp [intOf]; omega
    · obtain rfl : j = k := by omega
      go_wp2
      go_ret
      exact ⟨rfl, rfl⟩

theorem cut_toList (s : ByteArray) (i j : Nat) : (s.extract i j).data.toList = (s.data.toList.take j).drop i := by
  rw [ByteArray.data_extract, Array.toList_extract, List.extract_eq_take_drop, List.drop_take]
theorem cut_size (s : ByteArray) (i j : Nat) (hj : j ≤ s.size) : (s.extract i j).size = j - i := by
  rw [ByteArray.size_extract]; omega
theorem drop_toList (s : ByteArray) (i : Nat) : (s.extract i s.size).data.toList = s.data.toList.drop i := by
  rw [cut_toList, List.take_of_length_le (by rw [← Lib.size_eq]; omega)]

theorem rfixed_cut (s : ByteArray) (i k : Nat) (w : World) (hk : k ≤ 8) (hks : k ≤ s.size - i) (hs : s.size ≤ 281474976710656) :
    Calls Tryd.prog 46 #[.string (s.extract i s.size), .int .i64 k] w fun e w' => e = .returned (.int .u64 (unle ((s.data.toList.drop i).take k))) ∧ w' = w := by
  have h := rfixed_any (s.extract i s.size) k w hk (by rw [cut_size _ _ _ (Nat.le_refl _)]; exact hks) (by rw [cut_size _ _ _ (Nat.le_refl _)]; omega)
  rw [drop_toList] at h
  exact h

set_option maxHeartbeats 400000 in
theorem rnumber_ok (b : Nat) (s : ByteArray) (i : Nat) (bytes : Int) (w : World) (hs : Siz w) (h : RdAt w b s i) (hz : isSz bytes = true) (hl : bytes ≤ ((s.size - i : Nat) : Int)) (hx : unle ((s.data.toList.drop i).take bytes.toNat) ≤ 9223372036854775807) :
    Calls Tryd.prog 10 #[.pointer (some ⟨b, 0, none⟩), .int .i64 bytes] w fun e w' =>
      e = .returned (.tuple #[.int .i64 (unle ((s.data.toList.drop i).take bytes.toNat)), .int .i64 0]) ∧ RdAt w' b s (i + bytes.toNat) ∧ Kept (fun k => k = b) w w' := by
  have hc := isSz_cases hz
  obtain ⟨k, rfl⟩ : ∃ k : Nat, bytes = k := ⟨bytes.toNat, by omega⟩
  have h0 := h.c0
  have h1 := h.c1
  have hf1 := h.f1
  have h2 := h.2.1
  have h3 := h.2.2
  simp only [Int.toNat_natCast] at hx ⊢
  have hi0 : (0 : Int) ≤ (i : Int) := by omega
  have hi1 : (i : Int) ≤ (s.size : Int) := by omega
  go_enter Tryd.func10, Tryd.ntmps10
  go_wp2_with fail
  refine (isSize_any _ _ hs).mono ?_
  rintro e w' ⟨rfl, rfl⟩
  rw [hz]
  go_wp2_with fail
  refine (rleft_any b s i _ h).mono ?_
  rintro e W ⟨rfl, n1, hW⟩
  have hk1 : Kept (fun k => k = b) w' W := by rw [hW]; exact (Kept.refl _ _).drewN n1
  have hr1 : RdAt W b s i := by rw [hW]; exact h.drewN n1
  clear hW h0 h1 hf1
  have h0 := hr1.c0
  have h1 := hr1.c1
  have hf1 := hr1.f1
  go_wp2_with fail
  go_quiet ((go_at_call 46; exact Calls.quiet_of_same (rfixed_cut s i k _ (by omega) (by omega) h3)))
  generalize hxe : unle ((s.data.toList.drop i).take k) = x at *
  have HX : Hid (unle ((s.data.toList.drop i).take k) = x) := hxe
  clear hxe
  go_wp2
  go_ret2
  have hxe := HX.out
  subst hxe
  exact ⟨rfl, (hr1.drewN nq).set (i + k) (by omega), (hk1.drewN nq).setCell (fun _ => rfl) _⟩

end Go.Proofs.YtcdgphneljgooabDoor
