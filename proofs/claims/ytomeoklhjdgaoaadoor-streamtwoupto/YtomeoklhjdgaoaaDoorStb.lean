/-
  A builder that has room takes characters; isHalf; Clean.
-/
import Derived.Test.YtomeoklhjdgaoaaDoorSta
import Derived.Test.YtomeoklhjdgaoaaDoorShf
import Derived.Lib.OthersKept
import Derived.Lib.TrimU
namespace Go.Proofs.YtomeoklhjdgaoaaDoor
open Go.RowKit Go.Lib Go.Maps

abbrev BuA (B b : Nat) (bs : List Value) (w : World) : Prop := Lib.BuilderAtF 57 5 B b (.pointer (some ⟨b, 0, none⟩)) bs w
theorem bInfo : (Tryd.prog.info? 57).map (·.size) = some 2 := by kernel_rfl
set_option maxHeartbeats 1000000 in
set_option maxRecDepth 100000 in
theorem copyCheck_used (b : Nat) (w : World) (h0 : w.cell? ⟨b, 0, none⟩ = some (.pointer (some ⟨b, 0, none⟩))) :
    Calls Tryd.prog 48 #[.pointer (some ⟨b, 0, none⟩)] w fun e w' => e = .returned (.tuple #[]) ∧ w' = w := by
  obtain ⟨j, hj, _⟩ := Option.map_eq_some_iff.1 bInfo
  go_enter Tryd.func48, Tryd.ntmps48
  go_wp2
  rw [Lib.run_neq_ptr_same w _ Tryd.underlying54 hj]
  go_wp2
  go_end0
  exact ⟨rfl, rfl⟩
set_option maxHeartbeats 4000000 in
set_option maxRecDepth 100000 in
theorem writeRune_any (B b : Nat) (bs : List Value) (r : Int) (hr0 : -2147483648 ≤ r) (hr1 : r ≤ 2147483647) (w : World) (h : BuA B b bs w) (hlen : bs.length + 4 ≤ 140737488355328) (hBw : B ≤ w.heap.size) :
    Calls Tryd.prog 26 #[.pointer (some ⟨b, 0, none⟩), .int .i32 r] w fun e w' => e = .returned (.tuple #[.int .i64 (Lib.runeCells r).length, .nilIface]) ∧ BuA B b (bs ++ Lib.runeCells r) w' ∧ Below B w w' ∧ Lib.OthersKept 5 (some b) w w' := by
  have hk4 := Lib.runeCells_le r
  have HC := show Hid _ from copyCheck_used b w h.cell0
  obtain ⟨hB, v, hbk, hown, hne⟩ := h
  obtain ⟨ao, cap, rfl⟩ : ∃ ao cap, v = .slice ao bs.length cap := by
    rcases hown.2 with ⟨hv, h0⟩ | ⟨g, cap, cur, fz, hv, _⟩
    · exact ⟨none, 0, by rw [hv, h0]⟩
    · exact ⟨_, _, hv⟩
  have c0 : w.cell? ⟨b, 0, none⟩ = some (.pointer (some ⟨b, 0, none⟩)) := by rw [Lib.cell_of_heap hbk]; rfl
  have c1 : w.cell? ⟨b, 1, none⟩ = some (.slice ao bs.length cap) := by rw [Lib.cell_of_heap hbk]; rfl
  have HA := show Hid _ from Tryd.utf8_AppendRune_row B (.slice ao bs.length cap) bs.length bs r hr0 hr1 w hown hlen hBw
  have hb1 := hBw
  go_enter Tryd.func26, Tryd.ntmps26
  go_wp2_with fail
  refine Calls.mono HC.out ?_
  rintro e W1 ⟨rfl, hW⟩
  have hW' := hW.symm
  subst hW'
  clear hW HC
  go_wp2_with fail
  refine Calls.mono HA.out ?_
  clear HA
  rintro e w2 ⟨v', rfl, hown', o, hgrow⟩
  have hlt : b < w.heap.size := lt_of_heap hbk
  have hb2 : w2.heap[b]? = some (.cells #[.pointer (some ⟨b, 0, none⟩), .slice ao bs.length cap] 57 (0, 0)) := by
    rw [hgrow.block b (by simp; omega) (fun e => hne e.symm), Lib.alloc_old w _ b hlt]
    exact hbk
  have d0 : w2.cell? ⟨b, 0, none⟩ = some (.pointer (some ⟨b, 0, none⟩)) := by rw [Lib.cell_of_heap hb2]; rfl
  have d1 : w2.cell? ⟨b, 1, none⟩ = some (.slice ao bs.length cap) := by rw [Lib.cell_of_heap hb2]; rfl
  have f1 : w2.frozen? ⟨b, 1, none⟩ = false := Lib.frozen_of_heap hb2 1
  obtain ⟨g, cap', rfl⟩ : ∃ g cap', v' = .slice (some ⟨g, 0, none⟩) (bs.length + (Lib.runeCells r).length) cap' := by
    rcases hown'.2 with ⟨_, h0⟩ | ⟨g, cap', cur, fz, hv, _⟩
    · omega
    · exact ⟨g, cap', hv⟩
  go_wp2
  go_ret2
  refine ⟨?_, ?_, ?_, (((Lib.OthersKept.refl _ _ _).alloc _).grown hgrow (Lib.ownsRowF_kind (hown.alloc _))).setCell ⟨b, 1, none⟩ rfl _⟩
  · have e : ((bs.length : Int) + ((Lib.runeCells r).length : Int) - (bs.length : Int)) = ((Lib.runeCells r).length : Int) := by omega
    simp [e]
  · exact Lib.BuilderAtF.put (T := 57) (e := 5) hB hb2 (bs' := bs ++ Lib.runeCells r) (by simpa using hown') (by decide)
  · exact (((Below.refl B w).alloc (by omega) _).grown hgrow (by simp; omega) (fun k hk => (hown.lt k hk).1)).setCell (p := ⟨b, 1, none⟩) hB _

set_option maxHeartbeats 1000000 in
set_option maxRecDepth 100000 in
theorem isHalf_any (l : List UInt8) (w : World) (hl : l.length ≤ maxLen) (hT : TbM w) :
    Calls Tryd.prog 56 #[sV l] w fun e w' => e = .returned (.bool (hfL l)) ∧ Fresh w w' := by
  by_cases h0 : l = []
  · subst h0
    have hA : hfL [] = false := by decide
    rw [hA]
    go_enter Tryd.func56, Tryd.ntmps56
    go_wp2
    go_ret
    exact ⟨rfl, Kept.refl _ _⟩
  · have HC := show Hid _ from fullRune_any l w hl h0 hT
    have hne : l.isEmpty = false := by cases l with | nil => exact absurd rfl h0 | cons _ _ => rfl
    generalize hfL l = R at *
    go_enter Tryd.func56, Tryd.ntmps56
    go_wp2_with fail
    refine Calls.mono HC.out ?_
    rintro e W1 ⟨rfl, hF⟩
    clear HC
    go_wp2
    go_ret
    exact ⟨by simp, hF⟩

theorem clL_go {l : List UInt8} {i : Nat} (hi : i < l.length) : ∃ m r : Nat, Utf8.decode ⟨l.toArray⟩ i = (r, m) ∧ 1 ≤ m ∧ i + m ≤ l.length ∧ m ≤ 4 ∧ r ≤ 1114111 ∧ clL (l.drop i) = Lib.encodeRune r ++ clL (l.drop (i + m)) := by
  have hn : l.drop i ≠ [] := fun e => by have := congrArg List.length e; rw [List.length_drop] at this; simp at this; omega
  have hlen : (l.drop i).length = l.length - i := List.length_drop
  by_cases hc : chW (l.drop i) = 0
  · refine ⟨1, 65533, dec_bad hi hc, Nat.le_refl _, by omega, by omega, by omega, ?_⟩
    rw [clL_bad hn hc, enc_bad, List.drop_drop]
  · have hd := dec_good hc
    have hle := chW_le (l.drop i)
    refine ⟨chW (l.drop i), (Utf8.decode ⟨l.toArray⟩ i).1, Prod.ext rfl hd.1, by omega, by omega, hle.2, ?_, ?_⟩
    · rw [dec_at]
      exact Lib.decodeN_rune_le _ _ _ _ _ (bN_lt _ _)
    · rw [hd.2, clL_char hc, List.drop_drop]
theorem bc_app (a : List UInt8) (r : Nat) : Lib.byteCells a ++ Lib.runeCells r = Lib.byteCells (a ++ Lib.encodeRune r) := by
  rw [Lib.byteCells_append, Lib.byteCells_encodeRune]
set_option maxHeartbeats 4000000 in
set_option maxRecDepth 100000 in
theorem Clean_any (l : List UInt8) (w : World) (hl : l.length ≤ 1099511627776) :
    Calls Tryd.prog 10 #[sV l] w fun e w' => e = .returned (sV (clL l)) ∧ Fresh w w' := by
  obtain ⟨S, hS⟩ : ∃ S : ByteArray, S = ⟨l.toArray⟩ := ⟨_, rfl⟩
  have hsz : S.size = l.length := by rw [hS]; exact len_l l
  have HD : Hid (∀ i, i < S.size → ∃ m r : Nat, Utf8.decode S i = (r, m) ∧ 1 ≤ m ∧ i + m ≤ S.size ∧ m ≤ 4 ∧ r ≤ 1114111 ∧ clL (l.drop i) = Lib.encodeRune r ++ clL (l.drop (i + m))) := fun i hi => by
    rw [hsz] at hi ⊢
    rw [hS]
    exact clL_go hi
  have HE : Hid (∀ i, ¬ i < S.size → l.drop i = []) := fun i hi => List.drop_of_length_le (by omega)
  have hbd : S.size ≤ 1099511627776 := by omega
  obtain ⟨B, hB⟩ : ∃ B, B = w.heap.size := ⟨_, rfl⟩
  have hbk : (w.alloc (.cells #[.pointer none, .slice none 0 0] 57)).heap[B]? = some (.cells #[.pointer none, .slice none 0 0] 57 (0, 0)) := by rw [hB]; exact heap_alloc_new _ _
  have HG := show Hid _ from Tryd.Builder_Grow_fresh B B S.size (w.alloc (.cells #[.pointer none, .slice none 0 0] 57)) (Nat.le_refl _) hbk (by rw [World.size_alloc]; omega) (by omega)
  have HB0 : Hid (Below B w (w.alloc (.cells #[.pointer none, .slice none 0 0] 57))) := (Below.refl B w).alloc (by omega) _
  have hBs : B < (w.alloc (.cells #[.pointer none, .slice none 0 0] 57)).heap.size := by rw [World.size_alloc]; omega
  show Calls Tryd.prog _ #[.string ⟨l.toArray⟩] _ _
  rw [← hS]
  have hB' : w.heap.size = B := hB.symm
  clear hS hsz hl hbk hB
  generalize hA : w.alloc (.cells #[.pointer none, .slice none 0 0] 57) = wa at *
  go_enter Tryd.func10, Tryd.ntmps10
  go_wp2_with fail
  refine Calls.mono HG.out ?_
  rintro e w1 ⟨rfl, hb1, hbe1⟩
  clear HG hA
  have hw1 : Hid (Below B w w1) := HB0.out.trans hbe1
  have hs1 : B < w1.heap.size := Nat.lt_of_lt_of_le hBs hbe1.size
  have hb1' : Hid (BuA B B [] w1) := Lib.BuilderAtF.of hb1
  clear HB0 hbe1 hb1 hBs
  have hit0 : (w1.iter S 0).heap[w1.heap.size]? = some (.stringIter S 0) := World.iter_heap w1 S 0
  obtain ⟨k, hk⟩ : ∃ k, k = w1.heap.size := ⟨_, rfl⟩
  rw [← hk] at hs1 hit0
  have hbu0 : BuA B B [] (w1.iter S 0) := hb1'.out.alloc _
  have hbe0 : Below B w (w1.iter S 0) := hw1.out.alloc (by omega) _
  have hk' : w1.heap.size = k := hk.symm
  clear hk hb1' hw1
  go_wp2
  go_loopw [] (fun wr => ∃ (pos : Nat) (acc : List UInt8), BuA B B (Lib.byteCells acc) wr ∧ wr.heap[k]? = some (.stringIter S pos) ∧ Below B w wr ∧ Hid (acc ++ clL (l.drop pos) = clL l) ∧ acc.length ≤ 4 * pos ∧ pos ≤ S.size) (fun wr => S.size - wr.iterPos k)
  case atStart => exact ⟨0, [], hbu0, hit0, hbe0, rfl, by simp, by omega⟩
  case round =>
    obtain ⟨pos, acc, hI, hit, hbw, hacc, hal, hps⟩ := hrel
    clear hbu0 hit0 hbe0 hk'
    have hsz : k < wr.heap.size := (Array.getElem?_eq_some_iff.1 hit).1
    by_cases hp : pos < S.size
    · obtain ⟨m, r, hdec, hm1, hms, hm4, hr1, hcl⟩ := HD.out pos hp
      have hnx : ∀ ty, (Instr.next (.pointer (some ⟨k, 0, none⟩)) true ty).run Tryd.prog wr = _ := fun ty => Lib.run_next_any_at wr k S pos ty hit hp
      rw [hdec] at hnx
      have hI2 := hI.iterAt hit (pos + m)
      have hit2 := Lib.iterAt_heap wr k S pos (pos + m) hit
      have hbw2 := Lib.below_iterAt hbw (k := k) (by omega) S (pos + m)
      have hsz2 : B ≤ (wr.iterAt k S (pos + m)).heap.size := by rw [Lib.iterAt_size]; omega
      have HW := show Hid _ from writeRune_any B B (Lib.byteCells acc) r (by omega) (by omega) _ hI2 (by rw [Lib.byteCells_length]; omega) hsz2
      have hcl' : Hid (clL (l.drop pos) = Lib.encodeRune r ++ clL (l.drop (pos + m))) := hcl
      clear hdec hcl HD HE
      go_wp2_with fail
      refine Calls.mono HW.out ?_
      clear HW
      rintro e W1 ⟨rfl, h1, b1, k1⟩
      have hit3 := k1.iter hit2 (by omega)
      have hbw3 := hbw2.trans b1
      go_wp2
      go_roundw
      case rel =>
        have hl4 := Lib.runeCells_le (r : Int)
        rw [Lib.runeCells_length] at hl4
        refine ⟨pos + m, acc ++ Lib.encodeRune r, ?_, hit3, hbw3, ?_, by rw [List.length_append]; omega, by omega⟩
        · rw [← bc_app]; exact h1
        · show _ = _
          rw [List.append_assoc, ← hcl'.out]
          exact hacc.out
      case measure =>
        simp only [World.iterPos, hit3, hit]
        omega
    · have hnx : ∀ ty, (Instr.next (.pointer (some ⟨k, 0, none⟩)) true ty).run Tryd.prog wr = _ := fun ty => Lib.run_next_end_at wr k S pos ty hit hp
      have HS := show Hid _ from Tryd.Builder_String_any_f B B acc wr (.inr hI) (by omega)
      have he : acc = clL l := by
        have := hacc.out
        rw [HE.out pos hp, clL_nil, List.append_nil] at this
        exact this
      have he' : Hid (acc = clL l) := he
      clear he HD HE hacc hI
      go_wp2_with fail
      refine Calls.mono HS.out ?_
      clear HS
      rintro e W1 ⟨rfl, _, b1⟩
      have hb2 : Hid (Below B w W1) := hbw.trans b1
      clear hbw b1 hit
      go_wp2
      go_ret
      refine ⟨by rw [he'.out]; rfl, fresh_below ?_⟩
      rw [hB']
      exact hb2.out
end Go.Proofs.YtomeoklhjdgaoaaDoor
