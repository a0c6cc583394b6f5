/-
  What the calls of package wire's Writer do, each told of cells.
-/
import Derived.Test.YtcdgphneljgooabDoorRows
import Derived.Test.YtcdgphneljgooabDoorBase
import Derived.Deep.RegionLaw
import Derived.Deep.RegionHeld3
import Derived.BigQuiet
import Derived.Deep.QuietTactic
namespace Go.Proofs.YtcdgphneljgooabDoor
open Go.RowKit

theorem Tryd.infoB : (Tryd.prog.info? 5).map (fun i => (i.zero, i.size, i.bytes)) = some (some (.int .u8 0), 1, 1) := by kernel_rfl

/-- A writer lies in block b, its field holds v, and what it has written is bs. -/
def WrAt (w : World) (b : Nat) (v : Value) (bs : List UInt8) : Prop :=
  w.heap[b]? = some (.cells #[v] 75 (0, 0)) ∧ w.ownsRow 0 5 1 v bs.length (bytesV bs)

theorem WrAt.apart {w : World} {b : Nat} {v : Value} {bs : List UInt8} (h : WrAt w b v bs) : v.ownBlock ≠ some b := by
  intro e
  obtain ⟨h1, _, h2⟩ := h
  rcases h2 with ⟨rfl, _⟩ | ⟨g, cap, cur, rfl, _, hh, _⟩
  · simp [Value.ownBlock] at e
  · simp [Value.ownBlock] at e; subst e; rw [h1] at hh; simp at hh

theorem WrAt.kept {S : Nat → Prop} {w w' : World} {b : Nat} {v : Value} {bs : List UInt8} (h : WrAt w b v bs) (hk : Kept S w w') (hb : ¬ S b) (hv : ∀ g, v.ownBlock = some g → ¬ S g) : WrAt w' b v bs :=
  ⟨hk.at h.1 hb, owns_kept h.2 hk hv⟩

/-- The blocks that a writer writes to. -/
def wset (b : Nat) (v : Value) : Nat → Prop := fun k => k = b ∨ v.ownBlock = some k

/-- Its row lies where it lay, or in a new block. -/
def RowMoved (w : World) (v v' : Value) : Prop := v'.ownBlock = v.ownBlock ∨ ∃ g, v'.ownBlock = some g ∧ w.heap.size ≤ g

theorem RowMoved.trans {w w' : World} {v v' v'' : Value} (h : RowMoved w v v') (k : RowMoved w' v' v'') (hs : w.heap.size ≤ w'.heap.size) : RowMoved w v v'' := by
  rcases k with k | ⟨g, k, hg⟩
  · rcases h with h | ⟨g, h, hg⟩
    · exact .inl (k.trans h)
    · exact .inr ⟨g, k.trans h, hg⟩
  · exact .inr ⟨g, k, by omega⟩

theorem wset_moved {w : World} {b : Nat} {v v' : Value} (h : RowMoved w v v') : ∀ i, i < w.heap.size → wset b v' i → wset b v i := by
  intro i hi hs
  rcases hs with e | e
  · exact .inl e
  · rcases h with h | ⟨g, h, hg⟩
    · exact .inr (h ▸ e)
    · rw [h] at e; simp at e; omega

/-- One append through the pointer, and the store of the new slice. -/
theorem wr_step {w w0 w1 : World} {b g n cap : Nat} {v : Value} {bs news : List UInt8} (hw : WrAt w b v bs) (h0 : Fresh w w0) (hg : w0.grownBy w1 v.ownBlock)
    (hown : w1.ownsRow 0 5 1 (.slice (some ⟨g, 0, none⟩) n cap) n (bytesV (bs ++ news))) (hn : n = (bs ++ news).length) (hat : v.ownBlock = some g ∨ w.heap.size ≤ g) :
    WrAt (w1.setCell ⟨b, 0, none⟩ (.slice (some ⟨g, 0, none⟩) n cap)) b (.slice (some ⟨g, 0, none⟩) n cap) (bs ++ news) ∧
      Kept (wset b v) w (w1.setCell ⟨b, 0, none⟩ (.slice (some ⟨g, 0, none⟩) n cap)) ∧ RowMoved w v (.slice (some ⟨g, 0, none⟩) n cap) := by
  have hb := lt_of_heap hw.1
  have h1 : w1.heap[b]? = some (.cells #[v] 75 (0, 0)) :=
    (hg.block b (Nat.lt_of_lt_of_le hb h0.size) (fun e => hw.apart e.symm)).trans (h0.at hw.1 (fun e => e))
  have hgb : g ≠ b := by
    rcases hat with h | h
    · intro e; subst e; exact hw.apart h
    · omega
  refine ⟨⟨one_setCell h1, ?_⟩, ?_, ?_⟩
  · rw [← hn]
    exact ownsRow_setCell_other hown (by simp [Value.ownBlock]; exact hgb) _
  · have k1 : Kept (wset b v) w w0 := h0.mono (fun _ _ e => e.elim)
    have k2 := k1.grown hg (fun k _ e => .inr e)
    exact k2.setCell (fun _ => .inl rfl) _
  · rcases hat with h | h
    · exact .inl h.symm
    · exact .inr ⟨g, rfl, h⟩

theorem wrap_byteOf (n i : Nat) : IntKind.u8.wrap ((n / 256 ^ i : Nat) : Int) = ((byteOf n i).toNat : Int) := by
  rw [byteOf_toNat]
  simp only [IntKind.wrap_u8]
  omega

theorem shr_byte (n j : Nat) (W : World) (hj : j < 8) : Sem.run Tryd.prog (Op.shift .shr .u64 (n : Int) .i64 (IntKind.i64.wrap (8 * (j : Int)))) W = .ok (.int .u64 ((n / 256 ^ j : Nat) : Int)) W := by
  have e : IntKind.i64.wrap (8 * (j : Int)) = 8 * (j : Int) := by simp only [IntKind.wrap_i64]; omega
  rw [e, shift_shr .u64 .i64 (n : Int) (8 * (j : Int)) (by omega) (by simp [IntKind.bits]; omega)]
  have e2 : (8 * (j : Int)).toNat = 8 * j := by omega
  rw [e2]
  have e3 : (256 : Nat) ^ j = 2 ^ (8 * j) := by rw [Nat.pow_mul]
  rw [e3]
  simp

set_option maxHeartbeats 400000 in
set_option maxRecDepth 100000 in
theorem wfixed_any (b : Nat) (v : Value) (bs : List UInt8) (n : Nat) (k : Nat) (w : World) (hk : k ≤ 8) (hw : WrAt w b v bs) (hl : bs.length + 8 ≤ 1000000000000) :
    Calls Tryd.prog 48 #[.pointer (some ⟨b, 0, none⟩), .int .u64 n, .int .i64 k] w fun e w' => e = .returned (.tuple #[]) ∧ ∃ v', WrAt w' b v' (bs ++ le n k) ∧ Kept (wset b v) w w' ∧ RowMoved w v v' := by
  obtain ⟨i0, hi, hz0, hz1, hz2⟩ := info_parts Tryd.infoB
  go_enter Tryd.func48, Tryd.ntmps48
  go_wp2
  go_loopw [8] (fun i wr => ∃ j : Nat, j ≤ k ∧ i = .int .i64 j ∧ ∃ v', WrAt wr b v' (bs ++ le n j) ∧ Kept (wset b v) w wr ∧ RowMoved w v v') (fun i _ => k - (intOf i).toNat)
  case atStart => exact ⟨0, Nat.zero_le _, rfl, v, by rw [le_zero, List.append_nil]; exact hw, Kept.refl _ _, .inl rfl⟩
  case round =>
    obtain ⟨j, hj, rfl, v1, hw1, hk1, hm1⟩ := hrel
    by_cases hlt : j < k
    · have hc : wr.cell? ⟨b, 0, none⟩ = some v1 := cell_of_one hw1.1
      have hf : wr.frozen? ⟨b, 0, none⟩ = false := free_of_one hw1.1
      have hlb := lt_of_heap hw1.1
      have hap := hw1.apart
      have hfa : ∀ o, (wr.alloc o).frozen? ⟨b, 0, none⟩ = false := fun o => by rw [World.frozen?_of_block (Below.heap_alloc wr o b hlb)]; exact hf
      have hown := hw1.2
      have hsh : ∀ W : World, Sem.run Tryd.prog (Op.shift .shr .u64 (n : Int) .i64 (IntKind.i64.wrap (8 * (j : Int)))) W = .ok (.int .u64 ((n / 256 ^ j : Nat) : Int)) W := fun W => shr_byte n j W (by omega)
      have hcv : IntKind.u8.wrap ((n / 256 ^ j : Nat) : Int) = ((byteOf n j).toNat : Int) := wrap_byteOf n j
      have hll : (bs ++ le n j).length ≤ 1000000000000 := by rw [List.length_append, le_length]; omega
      generalize hxs : bs ++ le n j = xs at *
      have HX : Hid (bs ++ le n j = xs) := hxs
      clear hxs
      generalize n / 256 ^ j = q at *
      go_wp2_with fail
      go_region_law ((refine step_append_lies _ (by rfl) _ _ _ (by rfl) 0 5 i0 _ 1 1 Tryd.underlying73 hi hz0 hz1 hz2 rfl (by omega) v1 _ _ (by rfl) ((hown.alloc _).drew) ⟨wr.heap.size, 0, none⟩ 1 1 [.int .u8 ((byteOf n j).toNat : Int)] (by rfl) (by rfl) (World.news_of_block (cs := #[.int .u8 ((byteOf n j).toNat : Int)]) (t := 5) (fr := (0, 0)) (heap_alloc_new wr _)) (by simp [Value.oneCell']) (by omega) (by unfold maxLen; omega) (by omega) (by omega) (wr.heap.size + 1) (by simp) ?_; intro g cap w1 hown1 hgrow hat hlt1; have hc1 := (grown_cell (w := wr) (i := 0) hgrow rfl hlb hap).trans hc; have hf1 := (grown_frozen (w := wr) (i := 0) hgrow rfl hlb hap).trans hf))
      all_goals
        have hX := HX.out
        obtain ⟨r1, r2, r3⟩ := wr_step (news := [byteOf n j]) hw1 ((Kept.refl _ wr).alloc _).drew hgrow (by rw [bytesV_append]; exact hown1) (by simp) (by rcases hat with e | e; exact .inl e; exact .inr (by omega))
        have e1 : xs ++ [byteOf n j] = bs ++ le n (j + 1) := by rw [← hX, le_succ, List.append_assoc]
        rw [e1] at r1
        have HR : Hid (WrAt (w1.setCell ⟨b, 0, none⟩ (.slice (some ⟨g, 0, none⟩) (xs.length + 1) cap)) b (.slice (some ⟨g, 0, none⟩) (xs.length + 1) cap) (bs ++ le n (j + 1))) := r1
        have r4 := hk1.trans r2 (wset_moved hm1)
        have r5 := hm1.trans r3 hk1.size
        clear e1 hX HX hc1 hf1 hown1 hgrow hat hlt1 r1 r2 r3
        go_wp2
        go_roundw
        case rel => exact ⟨j + 1, by omega, by go_num, _, HR.out, r4, r5⟩
        case measure => simp [intOf]; omega
    · obtain rfl : j = k := by omega
      go_wp2
      go_end0
      exact ⟨rfl, v1, hw1, hk1, hm1⟩

set_option maxHeartbeats 400000 in
theorem newWriter_any (w : World) : Calls Tryd.prog 25 #[] w fun e w' => e = .returned (.pointer (some ⟨w.heap.size, 0, none⟩)) ∧ WrAt w' w.heap.size (.slice none 0 0) [] ∧ Fresh w w' := by
  go_enter Tryd.func25, Tryd.ntmps25
  go_wp2
  go_ret
  exact ⟨rfl, ⟨heap_alloc_new w _, World.ownsRow_nil _ _ _ _⟩, (Kept.refl _ w).alloc _⟩

set_option maxHeartbeats 400000 in
theorem wlen_any (b : Nat) (v : Value) (bs : List UInt8) (w : World) (hw : WrAt w b v bs) :
    Calls Tryd.prog 17 #[.pointer (some ⟨b, 0, none⟩)] w fun e w' => e = .returned (.int .i64 bs.length) ∧ w' = w := by
  have hc : w.cell? ⟨b, 0, none⟩ = some v := cell_of_one hw.1
  obtain ⟨ao, cp, hv⟩ : ∃ ao cp, v = .slice ao bs.length cp := by
    rcases hw.2.2 with ⟨h, h0⟩ | ⟨g, cap, cur, h, _⟩
    · exact ⟨none, 0, by rw [h, h0]⟩
    · exact ⟨_, cap, h⟩
  subst hv
  go_enter Tryd.func17, Tryd.ntmps17
  go_wp2
  go_ret
  exact ⟨rfl, rfl⟩

set_option maxHeartbeats 400000 in
theorem wbytes_any (b : Nat) (v : Value) (bs : List UInt8) (w : World) (hw : WrAt w b v bs) :
    Calls Tryd.prog 18 #[.pointer (some ⟨b, 0, none⟩)] w fun e w' => e = .returned (.string ⟨bs.toArray⟩) ∧ w' = w := by
  have hc : w.cell? ⟨b, 0, none⟩ = some v := cell_of_one hw.1
  have hcv : (convert 73 9 v).run Tryd.prog w = .ok (.string ⟨bs.toArray⟩) w := by
    rcases hw.2.2 with ⟨h, h0⟩ | ⟨g, cap, cur, h, _, hh, hle, hmx, hsz, htk⟩
    · have hb : bs = [] := List.eq_nil_of_length_eq_zero h0
      subst h; subst hb
      exact Lib.run_convert_nil_bytes w _ _ 5 0 Tryd.underlying73 Tryd.underlying5 Tryd.underlying9
    · subst h
      exact run_convert_bytes_back w _ _ 5 _ cap bs Tryd.underlying73 Tryd.underlying5 Tryd.underlying9 (Lib.bytes_of_row hh (by rw [Nat.mul_one] at htk; exact htk))
  obtain ⟨ao, cp, hv⟩ : ∃ ao cp, v = .slice ao bs.length cp := by
    rcases hw.2.2 with ⟨h, h0⟩ | ⟨g, cap, cur, h, _⟩
    · exact ⟨none, 0, by rw [h, h0]⟩
    · exact ⟨_, cap, h⟩
  subst hv
  go_enter Tryd.func18, Tryd.ntmps18
  go_wp2
  go_ret
  exact ⟨rfl, rfl⟩

end Go.Proofs.YtcdgphneljgooabDoor
