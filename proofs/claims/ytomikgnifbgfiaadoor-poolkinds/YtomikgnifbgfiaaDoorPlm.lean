/-
  Pools of texts and of singles of which nothing was given back: New, Take, Get.
-/
import Derived.Test.YtomikgnifbgfiaaDoorPll
namespace Go.Proofs.YtomikgnifbgfiaaDoor
open Go.RowKit

/-- A pool of texts of which nothing was given back. -/
structure TxAt (w : World) (b N : Nat) (vt : Value) (ss : List ByteArray) : Prop where
  blk : w.heap[b]? = some (.cells #[.int .i64 (N : Int), vt, .slice none 0 0, .int .i64 0, .int .i64 0] 86 (0, 0))
  th : w.ownsRow 0 9 1 vt ss.length (ss.map .string)
  le : ss.length ≤ N
  hi : N ≤ 65536
theorem TxAt.cells {w : World} {b N : Nat} {vt : Value} {ss : List ByteArray} (h : TxAt w b N vt ss) : w.cell? ⟨b, 0, none⟩ = some (.int .i64 (N : Int)) ∧ w.cell? ⟨b, 1, none⟩ = some vt ∧ w.cell? ⟨b, 2, none⟩ = some (.slice none 0 0) ∧ w.cell? ⟨b, 3, none⟩ = some (.int .i64 0) ∧ w.cell? ⟨b, 4, none⟩ = some (.int .i64 0) := by
  simp [World.cell?, h.blk]
theorem TxAt.kept {S : Nat → Prop} {w w' : World} {b N : Nat} {vt : Value} {ss : List ByteArray} (h : TxAt w b N vt ss) (hk : Kept S w w') (hb : ¬ S b) (hv : ∀ g, vt.ownBlock = some g → ¬ S g) : TxAt w' b N vt ss := ⟨hk.at h.blk hb, owns_kept h.th hk hv, h.le, h.hi⟩
theorem TxAt.drewN {w : World} {b N : Nat} {vt : Value} {ss : List ByteArray} (h : TxAt w b N vt ss) (n : Nat) : TxAt (w.drewN n) b N vt ss := ⟨h.blk, h.th, h.le, h.hi⟩
theorem TxAt.ne {w : World} {b N : Nat} {vt : Value} {ss : List ByteArray} (h : TxAt w b N vt ss) : vt.ownBlock ≠ some b := row_ne h.th h.blk (by decide)

set_option maxHeartbeats 400000 in
theorem has_none (b : Nat) (p : Nat) (w : World) (h : w.cell? ⟨b, 2, none⟩ = some (.slice none 0 0)) (hp : p ≤ 65536) :
    Calls Tryd.prog 45 #[.pointer (some ⟨b, 2, none⟩), .int .i64 (p : Int)] w fun e w' => e = .returned (.bool false) ∧ w' = w := by
  go_enter Tryd.func45, Tryd.ntmps45
  go_wp2
  go_ret
  exact ⟨rfl, rfl⟩

set_option maxHeartbeats 400000 in
theorem newT_bad (N : Int) (w : World) (h : ¬ (1 ≤ N ∧ N ≤ 65536)) :
    Calls Tryd.prog 17 #[.int .i64 N] w fun e w' => e = .returned (.tuple #[.pointer none, .int .i64 1]) ∧ w' = w := by
  by_cases h1 : N < 1
  · clear h
    go_enter Tryd.func17, Tryd.ntmps17
    go_wp2
    go_ret2
    exact ⟨rfl, rfl⟩
  · have h2 : 65536 < N := by omega
    clear h
    go_enter Tryd.func17, Tryd.ntmps17
    go_wp2
    go_ret2
    exact ⟨rfl, rfl⟩
set_option maxHeartbeats 400000 in
theorem newT_any (N : Nat) (w : World) (h1 : 1 ≤ N) (h2 : N ≤ 65536) :
    Calls Tryd.prog 17 #[.int .i64 (N : Int)] w fun e w' => e = .returned (.tuple #[.pointer (some ⟨w.heap.size, 0, none⟩), .int .i64 0]) ∧ TxAt w' w.heap.size N (.slice none 0 0) [] ∧ Fresh w w' := by
  have HP : Hid (TxAt (w.alloc (.cells #[.int .i64 (N : Int), .slice none 0 0, .slice none 0 0, .int .i64 0, .int .i64 0] 86)) w.heap.size N (.slice none 0 0) []) := ⟨heap_alloc_new w _, World.ownsRow_nil _ _ _ _, Nat.zero_le _, h2⟩
  go_enter Tryd.func17, Tryd.ntmps17
  go_wp2
  go_ret2
  exact ⟨rfl, HP.out, (Kept.refl _ _).alloc _⟩
set_option maxHeartbeats 400000 in
theorem usedT (b N : Nat) (vt : Value) (ss : List ByteArray) (w : World) (h : TxAt w b N vt ss) :
    Calls Tryd.prog 46 #[.pointer (some ⟨b, 0, none⟩)] w fun e w' => e = .returned (.int .i64 (ss.length : Int)) ∧ ∃ n, w' = w.drewN n := by
  obtain ⟨c0, c1, c2, c3, c4⟩ := h.cells
  have hl := h.le
  have hh := h.hi
  obtain ⟨ao, cap, rfl⟩ := slice_shape h.th
  clear h
  go_enter Tryd.func46, Tryd.ntmps46
  go_wp2_with fail
  go_quiet (fail)
  go_wp2
  go_ret
  exact ⟨ret_int (by omega), nq, rfl⟩
set_option maxHeartbeats 400000 in
theorem freeT (b N : Nat) (vt : Value) (ss : List ByteArray) (w : World) (h : TxAt w b N vt ss) :
    Calls Tryd.prog 37 #[.pointer (some ⟨b, 0, none⟩)] w fun e w' => e = .returned (.int .i64 ((N - ss.length : Nat) : Int)) ∧ ∃ n, w' = w.drewN n := by
  have HU := show Hid _ from (fun m => usedT b N vt ss (w.drewN m) (h.drewN m))
  obtain ⟨c0, c1, c2, c3, c4⟩ := h.cells
  have hl := h.le
  have hh := h.hi
  clear h
  go_enter Tryd.func37, Tryd.ntmps37
  go_wp2_with fail
  go_quiet ((go_at_call 46; exact Calls.quiet_of (HU.out _)))
  go_wp2
  go_ret
  exact ⟨ret_int (by omega), nq, rfl⟩

theorem Tryd.infoT : (Tryd.prog.info? 9).map (fun i => (i.zero, i.size, i.bytes)) = some (some (.string ⟨#[]⟩), 1, 16) := by kernel_rfl

set_option maxHeartbeats 1000000 in
set_option maxRecDepth 100000 in
theorem takeT (b N : Nat) (vt : Value) (ss : List ByteArray) (s : ByteArray) (w : World) (h : TxAt w b N vt ss) (hlt : ss.length < N) :
    Calls Tryd.prog 21 #[.pointer (some ⟨b, 0, none⟩), .string s] w fun e w' => e = .returned (.tuple #[.int .i64 (ss.length : Int), .int .i64 0]) ∧
      ∃ vt', TxAt w' b N vt' (ss ++ [s]) ∧ Kept (fun k => k = b ∨ vt.ownBlock = some k) w w' ∧ RowMoved w vt vt' := by
  obtain ⟨i0, hi, hz0, hz1, hz2⟩ := info_parts Tryd.infoT
  have HFr := show Hid _ from (fun (_ : Unit) => freeT b N vt ss w h)
  obtain ⟨d, hd⟩ : ∃ d, N - ss.length = d + 1 := ⟨N - ss.length - 1, by omega⟩
  rw [hd] at HFr
  have hN := h.hi
  have HQ : Hid (∀ (w0 w1 : World) (g cap : Nat), Fresh w w0 → w0.grownBy w1 vt.ownBlock → w1.ownsRow 0 9 1 (.slice (some ⟨g, 0, none⟩) (ss.length + 1) cap) (ss.length + 1) (ss.map .string ++ [.string s]) → (vt.ownBlock = some g ∨ w.heap.size ≤ g) →
      ∃ vt', TxAt (w1.setCell ⟨b, 1, none⟩ (.slice (some ⟨g, 0, none⟩) (ss.length + 1) cap)) b N vt' (ss ++ [s]) ∧ Kept (fun k => k = b ∨ vt.ownBlock = some k) w (w1.setCell ⟨b, 1, none⟩ (.slice (some ⟨g, 0, none⟩) (ss.length + 1) cap)) ∧ RowMoved w vt vt') := by
    intro w0 w1 g cap q1 q2 q3 q4
    have hb := lt_of_heap h.blk
    have hgb : g ≠ b := by
      rcases q4 with e | e
      · intro e'; subst e'; exact h.ne e
      · omega
    have k1 : Kept (fun k => k = b ∨ vt.ownBlock = some k) w w1 := (q1.mono (S' := fun k => k = b ∨ vt.ownBlock = some k) (fun _ _ e => e.elim)).grown q2 (fun k _ e => .inr e)
    have k2 : Kept (fun k => vt.ownBlock = some k) w w1 := (q1.mono (S' := fun k => vt.ownBlock = some k) (fun _ _ e => e.elim)).grown q2 (fun k _ e => e)
    refine ⟨.slice (some ⟨g, 0, none⟩) (ss.length + 1) cap, ⟨?_, ?_, ?_, h.hi⟩, k1.setCell (fun _ => .inl rfl) _, ?_⟩
    · rw [Lib.heap_setCell_same (k2.at h.blk h.ne)]; rfl
    · rw [List.length_append, List.map_append]
      exact owns_kept q3 (kept_set w1 b 1 _) (fun g' hg' (e : g' = b) => by simp only [Value.ownBlock, Option.some.injEq] at hg'; omega)
    · rw [List.length_append]; exact hlt
    · rcases q4 with e | e
      · exact .inl e.symm
      · exact .inr ⟨g, rfl, e⟩
  obtain ⟨c0, c1, c2, c3, c4⟩ := h.cells
  have hown := h.th
  have hbl := lt_of_heap h.blk
  have hap := h.ne
  have hf1 : w.frozen? ⟨b, 1, none⟩ = false := by simp [World.frozen?, h.blk]
  obtain ⟨ao, cap1, hv1⟩ := slice_shape h.th
  have hd2 : d < 65536 := by omega
  clear h hd
  subst hv1
  go_enter Tryd.func21, Tryd.ntmps21
  go_wp2_with fail
  refine (HFr.out ()).mono ?_
  rintro e w' ⟨rfl, n, hX⟩
  have hX0 : Fresh w w' := by rw [hX]; exact (Kept.refl _ _).drewN n
  have hown' : w'.ownsRow 0 9 1 (.slice ao ss.length cap1) ss.length (ss.map .string) := by rw [hX]; exact hown
  have hbl' : b < w'.heap.size := by rw [hX]; exact hbl
  have HSZ : Hid (w'.heap.size = w.heap.size) := by rw [hX]; rfl
  have c1' : w'.cell? ⟨b, 1, none⟩ = some (.slice ao ss.length cap1) := by rw [hX]; exact c1
  have c3' : w'.cell? ⟨b, 3, none⟩ = some (.int .i64 0) := by rw [hX]; exact c3
  have hf1' : w'.frozen? ⟨b, 1, none⟩ = false := by rw [hX]; exact hf1
  have HQ2 : Hid _ := fun w1 g cap a1 a2 a3 => HQ.out (w'.alloc (.cells #[.string s] 9)) w1 g cap (hX0.alloc _) a1 a2 a3
  clear hX hown hbl c0 c1 c2 c3 c4 hf1 HQ hX0
  generalize ss.map Value.string = sv at *
  go_wp2_with (at_builtin; refine wpList_append_lies _ rfl _ _ _ rfl 0 9 i0 _ 1 16 Tryd.underlying43 hi hz0 hz1 hz2 rfl (by omega) _ _ _ rfl (hown'.alloc _) ⟨w'.heap.size, 0, none⟩ 1 1 [.string s] rfl rfl (World.news_of_block (cs := #[.string s]) (t := 9) (fr := (0, 0)) (heap_alloc_new w' _)) (by simp [Value.oneCell']) (by omega) (by unfold maxLen; omega) (by omega) (by omega) (w'.heap.size + 1) (by simp) ?_; intro g cap w1 hown1 hgrow hat hlt2; have hc1 := (grown_cell (w := w') (i := 1) hgrow rfl hbl' hap).trans c1'; have hf1w := (grown_frozen (w := w') (i := 1) hgrow rfl hbl' hap).trans hf1'; have HZ := show Hid _ from HQ2.out w1 g cap hgrow hown1 (by rcases hat with e | e; exact .inl e; exact .inr (by have := HSZ.out; omega)); clear hgrow hown1 hat HQ2)
  go_ret2
  exact ⟨rfl, HZ.out⟩

set_option maxHeartbeats 400000 in
theorem takenT (b N : Nat) (vt : Value) (ss : List ByteArray) (k : Nat) (w : World) (h : TxAt w b N vt ss) (hk : (k : Int) ≤ 9223372036854775807) :
    Calls Tryd.prog 39 #[.pointer (some ⟨b, 0, none⟩), .int .i64 (k : Int)] w fun e w' => e = .returned (.bool (decide (k < ss.length))) ∧ w' = w := by
  obtain ⟨c0, c1, c2, c3, c4⟩ := h.cells
  have hl := h.le
  have hh := h.hi
  obtain ⟨ao, cap, rfl⟩ := slice_shape h.th
  clear h
  by_cases e : k < ss.length
  · have er : decide (k < ss.length) = true := by simp [e]
    rw [er]
    clear er
    go_enter Tryd.func39, Tryd.ntmps39
    go_wp2_with fail
    refine (has_none b k w c2 (by omega)).mono ?_
    rintro e w' ⟨rfl, rfl⟩
    go_wp2
    go_ret
    exact ⟨rfl, rfl⟩
  · have er : decide (k < ss.length) = false := by simp [e]
    rw [er]
    clear er
    go_enter Tryd.func39, Tryd.ntmps39
    go_wp2
    go_ret
    exact ⟨rfl, rfl⟩

set_option maxHeartbeats 400000 in
theorem getT (b N : Nat) (vt : Value) (ss : List ByteArray) (k : Nat) (w : World) (h : TxAt w b N vt ss) (hk : k < ss.length) :
    Calls Tryd.prog 23 #[.pointer (some ⟨b, 0, none⟩), .int .i64 (k : Int)] w fun e w' => e = .returned (.tuple #[.string ss[k], .bool true]) ∧ w' = w := by
  have hh := h.hi
  have hl := h.le
  have ht := fun (_ : Unit) => takenT b N vt ss k w h (by omega)
  have e1 : decide (k < ss.length) = true := by simp [hk]
  rw [e1] at ht
  have HT := show Hid _ from ht
  obtain ⟨c0, c1, c2, c3, c4⟩ := h.cells
  obtain ⟨g, cap, rfl, _, _⟩ := h.th.form (by omega)
  have d := h.th.cellAt k (by omega)
  rw [List.getElem?_map, List.getElem?_eq_getElem hk] at d
  simp only [Option.map_some] at d
  generalize ss[k] = s at *
  clear h ht e1
  go_enter Tryd.func23, Tryd.ntmps23
  go_wp2_with fail
  refine (HT.out ()).mono ?_
  rintro e w' ⟨rfl, rfl⟩
  go_wp2
  go_ret2
  exact ⟨rfl, rfl⟩
set_option maxHeartbeats 400000 in
theorem getT_none (b N : Nat) (vt : Value) (ss : List ByteArray) (k : Nat) (w : World) (h : TxAt w b N vt ss) (hk : ¬ k < ss.length) (hk2 : (k : Int) ≤ 9223372036854775807) :
    Calls Tryd.prog 23 #[.pointer (some ⟨b, 0, none⟩), .int .i64 (k : Int)] w fun e w' => e = .returned (.tuple #[.string ⟨#[]⟩, .bool false]) ∧ w' = w := by
  have ht := fun (_ : Unit) => takenT b N vt ss k w h hk2
  have e1 : decide (k < ss.length) = false := by simp; omega
  rw [e1] at ht
  have HT := show Hid _ from ht
  clear h ht e1 hk
  go_enter Tryd.func23, Tryd.ntmps23
  go_wp2_with fail
  refine (HT.out ()).mono ?_
  rintro e w' ⟨rfl, rfl⟩
  go_wp2
  go_ret2
  exact ⟨rfl, rfl⟩
end Go.Proofs.YtomikgnifbgfiaaDoor
