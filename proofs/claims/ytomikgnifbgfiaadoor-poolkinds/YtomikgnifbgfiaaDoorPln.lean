/-
  A pool of singles of which nothing was given back: New, Take, Get.
-/
import Derived.Test.YtomikgnifbgfiaaDoorPlm
namespace Go.Proofs.YtomikgnifbgfiaaDoor
open Go.RowKit

theorem four_cells {w : World} {b : Nat} {a0 a1 a2 a3 : Value} {t : TypeId} {fz : Nat × Nat} (h : w.heap[b]? = some (.cells #[a0, a1, a2, a3] t fz)) : w.cell? ⟨b, 0, none⟩ = some a0 ∧ w.cell? ⟨b, 1, none⟩ = some a1 ∧ w.cell? ⟨b, 2, none⟩ = some a2 ∧ w.cell? ⟨b, 3, none⟩ = some a3 := by
  simp [World.cell?, h]
/-- The cells of a single that a number makes. -/
def gC (m : Nat) : List Value := [.int .i64 0, .bool ((m : Int) % 2 == 1), .int .i64 (m : Int), .int .i64 0]
def gV (ss : List Nat) : List Value := ss.flatMap gC
theorem gV_snoc (ss : List Nat) (m : Nat) : gV (ss ++ [m]) = gV ss ++ [.int .i64 0, .bool ((m : Int) % 2 == 1), .int .i64 (m : Int), .int .i64 0] := by simp [gV, gC]
theorem gV_at : ∀ (ss : List Nat) (k : Nat) (h : k < ss.length), (gV ss)[k * 4]? = some (.int .i64 0) ∧ (gV ss)[k * 4 + 1]? = some (.bool ((ss[k] : Int) % 2 == 1)) ∧ (gV ss)[k * 4 + 2]? = some (.int .i64 (ss[k] : Int)) ∧ (gV ss)[k * 4 + 3]? = some (.int .i64 0)
  | m :: ss, 0, _ => by simp [gV, gC]
  | m :: ss, k + 1, h => by
    have := gV_at ss k (by simpa using h)
    have e1 : gV (m :: ss) = .int .i64 0 :: .bool ((m : Int) % 2 == 1) :: .int .i64 (m : Int) :: .int .i64 0 :: gV ss := by simp [gV, gC]
    rw [e1, show (k + 1) * 4 = k * 4 + 1 + 1 + 1 + 1 by omega]
    simpa using this

/-- A pool of singles of which nothing was given back. -/
structure SgAt (w : World) (b N : Nat) (vt : Value) (ss : List Nat) : Prop where
  blk : w.heap[b]? = some (.cells #[.int .i64 (N : Int), vt, .slice none 0 0, .int .i64 0, .int .i64 0] 89 (0, 0))
  th : w.ownsRow 0 51 4 vt ss.length (gV ss)
  le : ss.length ≤ N
  hi : N ≤ 65536
theorem SgAt.cells {w : World} {b N : Nat} {vt : Value} {ss : List Nat} (h : SgAt w b N vt ss) : w.cell? ⟨b, 0, none⟩ = some (.int .i64 (N : Int)) ∧ w.cell? ⟨b, 1, none⟩ = some vt ∧ w.cell? ⟨b, 2, none⟩ = some (.slice none 0 0) ∧ w.cell? ⟨b, 3, none⟩ = some (.int .i64 0) ∧ w.cell? ⟨b, 4, none⟩ = some (.int .i64 0) := by
  simp [World.cell?, h.blk]
theorem SgAt.kept {S : Nat → Prop} {w w' : World} {b N : Nat} {vt : Value} {ss : List Nat} (h : SgAt w b N vt ss) (hk : Kept S w w') (hb : ¬ S b) (hv : ∀ g, vt.ownBlock = some g → ¬ S g) : SgAt w' b N vt ss := ⟨hk.at h.blk hb, owns_kept h.th hk hv, h.le, h.hi⟩
theorem SgAt.drewN {w : World} {b N : Nat} {vt : Value} {ss : List Nat} (h : SgAt w b N vt ss) (n : Nat) : SgAt (w.drewN n) b N vt ss := ⟨h.blk, h.th, h.le, h.hi⟩
theorem SgAt.ne {w : World} {b N : Nat} {vt : Value} {ss : List Nat} (h : SgAt w b N vt ss) : vt.ownBlock ≠ some b := row_ne h.th h.blk (by decide)

set_option maxHeartbeats 400000 in
theorem newG_bad (N : Int) (w : World) (h : ¬ (1 ≤ N ∧ N ≤ 65536)) :
    Calls Tryd.prog 18 #[.int .i64 N] w fun e w' => e = .returned (.tuple #[.pointer none, .int .i64 1]) ∧ w' = w := by
  by_cases h1 : N < 1
  · clear h
    go_enter Tryd.func18, Tryd.ntmps18
    go_wp2
    go_ret2
    exact ⟨rfl, rfl⟩
  · have h2 : 65536 < N := by omega
    clear h
    go_enter Tryd.func18, Tryd.ntmps18
    go_wp2
    go_ret2
    exact ⟨rfl, rfl⟩
set_option maxHeartbeats 400000 in
theorem newG_any (N : Nat) (w : World) (h1 : 1 ≤ N) (h2 : N ≤ 65536) :
    Calls Tryd.prog 18 #[.int .i64 (N : Int)] w fun e w' => e = .returned (.tuple #[.pointer (some ⟨w.heap.size, 0, none⟩), .int .i64 0]) ∧ SgAt w' w.heap.size N (.slice none 0 0) [] ∧ Fresh w w' := by
  have HP : Hid (SgAt (w.alloc (.cells #[.int .i64 (N : Int), .slice none 0 0, .slice none 0 0, .int .i64 0, .int .i64 0] 89)) w.heap.size N (.slice none 0 0) []) := ⟨heap_alloc_new w _, World.ownsRow_nil _ _ _ _, Nat.zero_le _, h2⟩
  go_enter Tryd.func18, Tryd.ntmps18
  go_wp2
  go_ret2
  exact ⟨rfl, HP.out, (Kept.refl _ _).alloc _⟩
set_option maxHeartbeats 400000 in
theorem usedG (b N : Nat) (vt : Value) (ss : List Nat) (w : World) (h : SgAt w b N vt ss) :
    Calls Tryd.prog 47 #[.pointer (some ⟨b, 0, none⟩)] w fun e w' => e = .returned (.int .i64 (ss.length : Int)) ∧ ∃ n, w' = w.drewN n := by
  obtain ⟨c0, c1, c2, c3, c4⟩ := h.cells
  have hl := h.le
  have hh := h.hi
  obtain ⟨ao, cap, rfl⟩ := slice_shape h.th
  clear h
  go_enter Tryd.func47, Tryd.ntmps47
  go_wp2_with fail
  go_quiet (fail)
  go_wp2
  go_ret
  exact ⟨ret_int (by omega), nq, rfl⟩
set_option maxHeartbeats 400000 in
theorem freeG (b N : Nat) (vt : Value) (ss : List Nat) (w : World) (h : SgAt w b N vt ss) :
    Calls Tryd.prog 38 #[.pointer (some ⟨b, 0, none⟩)] w fun e w' => e = .returned (.int .i64 ((N - ss.length : Nat) : Int)) ∧ ∃ n, w' = w.drewN n := by
  have HU := show Hid _ from (fun m => usedG b N vt ss (w.drewN m) (h.drewN m))
  obtain ⟨c0, c1, c2, c3, c4⟩ := h.cells
  have hl := h.le
  have hh := h.hi
  clear h
  go_enter Tryd.func38, Tryd.ntmps38
  go_wp2_with fail
  go_quiet ((go_at_call 47; exact Calls.quiet_of (HU.out _)))
  go_wp2
  go_ret
  exact ⟨ret_int (by omega), nq, rfl⟩

theorem Tryd.infoG : (Tryd.prog.info? 51).map (fun i => (i.zero, i.size, i.bytes)) = some (some (.agg #[.int .i64 0, .bool false, .int .i64 0, .int .i64 0]), 4, 32) := by kernel_rfl

set_option maxHeartbeats 1000000 in
set_option maxRecDepth 100000 in
theorem takeG (b N : Nat) (vt : Value) (ss : List Nat) (m : Nat) (w : World) (h : SgAt w b N vt ss) (hlt : ss.length < N) :
    Calls Tryd.prog 22 #[.pointer (some ⟨b, 0, none⟩), .agg #[.int .i64 0, .bool ((m : Int) % 2 == 1), .int .i64 (m : Int), .int .i64 0]] w fun e w' => e = .returned (.tuple #[.int .i64 (ss.length : Int), .int .i64 0]) ∧
      ∃ vt', SgAt w' b N vt' (ss ++ [m]) ∧ Kept (fun k => k = b ∨ vt.ownBlock = some k) w w' ∧ RowMoved w vt vt' := by
  obtain ⟨i0, hi, hz0, hz1, hz2⟩ := info_parts Tryd.infoG
  generalize hB : ((m : Int) % 2 == 1) = B at *
  have hN := h.hi
  have hF0 : Fresh w (w.alloc (.cells #[.int .i64 0, .bool B, .int .i64 (m : Int), .int .i64 0] 51)) := (Kept.refl _ w).alloc _
  have h0 := h.kept hF0 (fun e => e) (fun _ _ e => e)
  have HFr := show Hid _ from (fun (_ : Unit) => freeG b N vt ss _ h0)
  obtain ⟨d, hd⟩ : ∃ d, N - ss.length = d + 1 := ⟨N - ss.length - 1, by omega⟩
  rw [hd] at HFr
  have HQ : Hid (∀ (w0 w1 : World) (g cap : Nat), Fresh w w0 → w0.grownBy w1 vt.ownBlock → w1.ownsRow 0 51 4 (.slice (some ⟨g, 0, none⟩) (ss.length + 1) cap) (ss.length + 1) (gV ss ++ [.int .i64 0, .bool B, .int .i64 (m : Int), .int .i64 0]) → (vt.ownBlock = some g ∨ w.heap.size ≤ g) →
      ∃ vt', SgAt (w1.setCell ⟨b, 1, none⟩ (.slice (some ⟨g, 0, none⟩) (ss.length + 1) cap)) b N vt' (ss ++ [m]) ∧ Kept (fun k => k = b ∨ vt.ownBlock = some k) w (w1.setCell ⟨b, 1, none⟩ (.slice (some ⟨g, 0, none⟩) (ss.length + 1) cap)) ∧ RowMoved w vt vt') := by
    intro w0 w1 g cap q1 q2 q3 q4
    have hb := lt_of_heap h.blk
    have hgb : g ≠ b := by
      rcases q4 with e | e
      · intro e'; subst e'; exact h.ne e
      · omega
    have k1 : Kept (fun k => k = b ∨ vt.ownBlock = some k) w w1 := (q1.mono (S' := fun k => k = b ∨ vt.ownBlock = some k) (fun _ _ e => e.elim)).grown q2 (fun k _ e => .inr e)
    have k2 : Kept (fun k => vt.ownBlock = some k) w w1 := (q1.mono (S' := fun k => vt.ownBlock = some k) (fun _ _ e => e.elim)).grown q2 (fun k _ e => e)
    refine ⟨.slice (some ⟨g, 0, none⟩) (ss.length + 1) cap, ⟨?_, ?_, ?_, h.hi⟩, k1.setCell (fun _ => .inl rfl) _, ?_⟩
    · rw [Lib.heap_setCell_same (k2.at h.blk h.ne)]; rfl
    · rw [List.length_append, gV_snoc, hB]
      exact owns_kept q3 (kept_set w1 b 1 _) (fun g' hg' (e : g' = b) => by simp only [Value.ownBlock, Option.some.injEq] at hg'; omega)
    · rw [List.length_append]; exact hlt
    · rcases q4 with e | e
      · exact .inl e.symm
      · exact .inr ⟨g, rfl, e⟩
  have hbx := heap_alloc_new w (.cells #[.int .i64 0, .bool B, .int .i64 (m : Int), .int .i64 0] 51)
  have hap := h.ne
  have hd2 : d < 65536 := by omega
  obtain ⟨ao, cap1, hv1⟩ := slice_shape h.th
  have HH0 : Hid _ := fun (_ : Unit) => h0
  have HF0 : Hid _ := fun (_ : Unit) => hF0
  clear h hd h0 hF0 hB
  subst hv1
  go_enter Tryd.func22, Tryd.ntmps22
  go_wp2_with fail
  refine (HFr.out ()).mono ?_
  rintro e w' ⟨rfl, n, hX⟩
  have hX0 : Fresh w w' := by rw [hX]; exact (HF0.out ()).drewN n
  have h' : SgAt w' b N (.slice ao ss.length cap1) ss := by rw [hX]; exact (HH0.out ()).drewN n
  have hbx' : w'.heap[w.heap.size]? = some (.cells #[.int .i64 0, .bool B, .int .i64 (m : Int), .int .i64 0] 51 (0, 0)) := by rw [hX]; exact hbx
  have HSZ : Hid (w.heap.size ≤ w'.heap.size) := hX0.size
  have hown' := h'.th
  have hbl' := lt_of_heap h'.blk
  obtain ⟨c0, c1, c2, c3, c4⟩ := h'.cells
  have hf1 : w'.frozen? ⟨b, 1, none⟩ = false := by simp [World.frozen?, h'.blk]
  have x0 : w'.cell? ⟨w.heap.size, 0, none⟩ = some (.int .i64 0) := by simp [World.cell?, hbx']
  have x1 : w'.cell? ⟨w.heap.size, 1, none⟩ = some (.bool B) := by simp [World.cell?, hbx']
  have x2 : w'.cell? ⟨w.heap.size, 2, none⟩ = some (.int .i64 (m : Int)) := by simp [World.cell?, hbx']
  have x3 : w'.cell? ⟨w.heap.size, 3, none⟩ = some (.int .i64 0) := by simp [World.cell?, hbx']
  have HQ2 : Hid _ := fun w1 g cap a1 a2 a3 => HQ.out (w'.alloc (.cells #[.int .i64 0, .bool B, .int .i64 (m : Int), .int .i64 0] 51)).drew w1 g cap (hX0.alloc _).drew a1 a2 a3
  have hfa : ∀ o, (w'.alloc o).frozen? ⟨b, 1, none⟩ = false := fun o => by rw [World.frozen?_of_block (Below.heap_alloc w' o b hbl')]; exact hf1
  clear hX hbx hbx' h' HQ hX0 HH0 HF0 HFr
  generalize gV ss = sv at *
  go_wp2_with fail
  go_region_law ((refine step_append_lies _ (by rfl) _ _ _ (by rfl) 0 51 i0 _ 4 32 Tryd.underlying87 hi hz0 hz1 hz2 rfl (by omega) _ _ _ (by rfl) ((hown'.alloc _).drew) ⟨w'.heap.size, 0, none⟩ 1 1 [.int .i64 0, .bool B, .int .i64 (m : Int), .int .i64 0] (by rfl) (by rfl) (World.news_of_block (cs := #[.int .i64 0, .bool B, .int .i64 (m : Int), .int .i64 0]) (t := 51) (fr := (0, 0)) (heap_alloc_new w' _)) (by simp [Value.oneCell']) (by omega) (by unfold maxLen; omega) (by omega) (by omega) (w'.heap.size + 1) (by simp) ?_; intro g cap w1 hown1 hgrow hat hlt1; have hc1 := (grown_cell (w := w') (i := 1) hgrow rfl hbl' hap).trans c1; have hf1w := (grown_frozen (w := w') (i := 1) hgrow rfl hbl' hap).trans hf1))
  all_goals
    have HZ := show Hid _ from HQ2.out w1 g cap hgrow hown1 (by rcases hat with e | e; exact .inl e; exact .inr (by have := HSZ.out; omega))
    clear hgrow hown1 hat HQ2
    go_wp2
    go_ret2
    exact ⟨rfl, HZ.out⟩

set_option maxHeartbeats 400000 in
theorem takenG (b N : Nat) (vt : Value) (ss : List Nat) (k : Nat) (w : World) (h : SgAt w b N vt ss) (hk : (k : Int) ≤ 9223372036854775807) :
    Calls Tryd.prog 40 #[.pointer (some ⟨b, 0, none⟩), .int .i64 (k : Int)] w fun e w' => e = .returned (.bool (decide (k < ss.length))) ∧ w' = w := by
  obtain ⟨c0, c1, c2, c3, c4⟩ := h.cells
  have hl := h.le
  have hh := h.hi
  obtain ⟨ao, cap, rfl⟩ := slice_shape h.th
  clear h
  by_cases e : k < ss.length
  · have er : decide (k < ss.length) = true := by simp [e]
    rw [er]
    clear er
    go_enter Tryd.func40, Tryd.ntmps40
    go_wp2_with fail
    refine (has_none b k w c2 (by omega)).mono ?_
    rintro e w' ⟨rfl, rfl⟩
    go_wp2
    go_ret
    exact ⟨rfl, rfl⟩
  · have er : decide (k < ss.length) = false := by simp [e]
    rw [er]
    clear er
    go_enter Tryd.func40, Tryd.ntmps40
    go_wp2
    go_ret
    exact ⟨rfl, rfl⟩

set_option maxHeartbeats 1000000 in
theorem getG (b N : Nat) (vt : Value) (ss : List Nat) (k : Nat) (w : World) (h : SgAt w b N vt ss) (hk : k < ss.length) :
    Calls Tryd.prog 24 #[.pointer (some ⟨b, 0, none⟩), .int .i64 (k : Int)] w fun e w' => e = .returned (.tuple #[.agg #[.int .i64 0, .bool ((ss[k] : Int) % 2 == 1), .int .i64 (ss[k] : Int), .int .i64 0], .bool true]) ∧ Fresh w w' := by
  have hh := h.hi
  have hl := h.le
  have hF0 : Fresh w (w.alloc (.cells #[.int .i64 0, .bool false, .int .i64 0, .int .i64 0] 51)) := (Kept.refl _ w).alloc _
  have h0 := h.kept hF0 (fun e => e) (fun _ _ e => e)
  have ht := fun (_ : Unit) => takenG b N vt ss k _ h0 (by omega)
  have e1 : decide (k < ss.length) = true := by simp [hk]
  rw [e1] at ht
  have HT := show Hid _ from ht
  obtain ⟨c0, c1, c2, c3, c4⟩ := h0.cells
  obtain ⟨g, cap, rfl, _, hgl⟩ := h.th.form (by omega)
  obtain ⟨q0, q1, q2, q3⟩ := gV_at ss k hk
  have d0 := h0.th.cellAt (k * 4) (by omega)
  have d1 := h0.th.cellAt (k * 4 + 1) (by omega)
  have d2 := h0.th.cellAt (k * 4 + 2) (by omega)
  have d3 := h0.th.cellAt (k * 4 + 3) (by omega)
  rw [q0] at d0
  rw [q1] at d1
  rw [q2] at d2
  rw [q3] at d3
  generalize hB : ((ss[k] : Int) % 2 == 1) = B at *
  generalize ss[k] = m at *
  clear h h0 ht e1 hF0 q0 q1 q2 q3 hB
  go_enter Tryd.func24, Tryd.ntmps24
  go_wp2_with fail
  refine (HT.out ()).mono ?_
  rintro e w' ⟨rfl, rfl⟩
  go_wp2
  have hbx := heap_alloc_new w (.cells #[.int .i64 0, .bool B, .int .i64 (m : Int), .int .i64 0] 51)
  obtain ⟨x0, x1, x2, x3⟩ := four_cells hbx
  exact bodyPost_ret (v := .tuple #[.agg #[.int .i64 0, .bool B, .int .i64 (m : Int), .int .i64 0], .bool true]) (by simp [results, Tryd.results24, go_sem, x0, x1, x2, x3]) rfl ⟨rfl, (Kept.refl _ w).alloc _⟩
end Go.Proofs.YtomikgnifbgfiaaDoor
