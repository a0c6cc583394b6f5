/-
  A middle copied, the statements' own.
-/
import Derived.Test.YtbppahmcjifflaaDoorAci
import Derived.Test.YtbppahmcjifflaaDoorRoiT
import Derived.Test.YtbppahmcjifflaaDoorRgi
namespace Go.Proofs.YtbppahmcjifflaaDoor
open Go.RowKit Go.Lib Go.Maps

/-- A row in memory that was made since. -/
def OwnR (W w : World) (s : Value) (L : List Int) : Prop := (∃ ao n c, s = .slice ao n c) ∧ Rk .i8 (fun b => W.heap.size ≤ b ∧ b < w.heap.size) w s L
theorem OwnR.kept {W w w' : World} {s : Value} {L : List Int} {B : Nat} (h : OwnR W w s L) (hk : Kept (fun b => b = B) w w') (hB : B < W.heap.size) : OwnR W w' s L :=
  ⟨h.1, (h.2.kept hk (fun b hb e => by omega)).mono (fun b hb => ⟨hb.1, Nat.lt_of_lt_of_le hb.2 hk.size⟩)⟩
/-- A box of six cells. -/
def Six (w : World) (B : Nat) (c0 c1 c2 c3 c4 c5 : Value) : Prop :=
  w.cell? ⟨B, 0, none⟩ = some c0 ∧ w.cell? ⟨B, 1, none⟩ = some c1 ∧ w.cell? ⟨B, 2, none⟩ = some c2 ∧ w.cell? ⟨B, 3, none⟩ = some c3 ∧ w.cell? ⟨B, 4, none⟩ = some c4 ∧ w.cell? ⟨B, 5, none⟩ = some c5 ∧ ∀ k, w.frozen? ⟨B, k, none⟩ = false
theorem Six.fresh {w w' : World} {B : Nat} {c0 c1 c2 c3 c4 c5 : Value} (h : Six w B c0 c1 c2 c3 c4 c5) (hk : Fresh w w') : Six w' B c0 c1 c2 c3 c4 c5 := by
  obtain ⟨h0, h1, h2, h3, h4, h5, hf⟩ := h
  have hb : B < w.heap.size := by simpa using World.block_lt_of_cell? w _ h0
  have e : ∀ i, w'.cell? ⟨B, i, none⟩ = w.cell? ⟨B, i, none⟩ := fun i => hk.cell (p := ⟨B, i, none⟩) hb (fun e => e)
  exact ⟨(e 0).trans h0, (e 1).trans h1, (e 2).trans h2, (e 3).trans h3, (e 4).trans h4, (e 5).trans h5, fun k => (hk.frozen (p := ⟨B, k, none⟩) hb (fun e => e)).trans (hf k)⟩
theorem frozen_setCell (w : World) (p q : Addr) (x : Value) : (w.setCell p x).frozen? q = w.frozen? q := by simp
theorem six_off {B i k : Nat} (h : i ≠ k) : (⟨B, i, none⟩ : Addr) ≠ ⟨B, k, none⟩ := fun e => h (by injection e)
theorem Six.set0 {w : World} {B : Nat} {c0 c1 c2 c3 c4 c5 : Value} (h : Six w B c0 c1 c2 c3 c4 c5) (x : Value) : Six (w.setCell ⟨B, 0, none⟩ x) B x c1 c2 c3 c4 c5 := by
  obtain ⟨h0, h1, h2, h3, h4, h5, hf⟩ := h
  exact ⟨World.cell?_setCell_same _ _ _ h0, (World.cell?_setCell_other _ _ _ _ (six_off (by decide))).trans h1, (World.cell?_setCell_other _ _ _ _ (six_off (by decide))).trans h2, (World.cell?_setCell_other _ _ _ _ (six_off (by decide))).trans h3, (World.cell?_setCell_other _ _ _ _ (six_off (by decide))).trans h4, (World.cell?_setCell_other _ _ _ _ (six_off (by decide))).trans h5, fun k => by rw [frozen_setCell]; exact hf k⟩
theorem Six.set1 {w : World} {B : Nat} {c0 c1 c2 c3 c4 c5 : Value} (h : Six w B c0 c1 c2 c3 c4 c5) (x : Value) : Six (w.setCell ⟨B, 1, none⟩ x) B c0 x c2 c3 c4 c5 := by
  obtain ⟨h0, h1, h2, h3, h4, h5, hf⟩ := h
  exact ⟨(World.cell?_setCell_other _ _ _ _ (six_off (by decide))).trans h0, World.cell?_setCell_same _ _ _ h1, (World.cell?_setCell_other _ _ _ _ (six_off (by decide))).trans h2, (World.cell?_setCell_other _ _ _ _ (six_off (by decide))).trans h3, (World.cell?_setCell_other _ _ _ _ (six_off (by decide))).trans h4, (World.cell?_setCell_other _ _ _ _ (six_off (by decide))).trans h5, fun k => by rw [frozen_setCell]; exact hf k⟩
theorem Six.set2 {w : World} {B : Nat} {c0 c1 c2 c3 c4 c5 : Value} (h : Six w B c0 c1 c2 c3 c4 c5) (x : Value) : Six (w.setCell ⟨B, 2, none⟩ x) B c0 c1 x c3 c4 c5 := by
  obtain ⟨h0, h1, h2, h3, h4, h5, hf⟩ := h
  exact ⟨(World.cell?_setCell_other _ _ _ _ (six_off (by decide))).trans h0, (World.cell?_setCell_other _ _ _ _ (six_off (by decide))).trans h1, World.cell?_setCell_same _ _ _ h2, (World.cell?_setCell_other _ _ _ _ (six_off (by decide))).trans h3, (World.cell?_setCell_other _ _ _ _ (six_off (by decide))).trans h4, (World.cell?_setCell_other _ _ _ _ (six_off (by decide))).trans h5, fun k => by rw [frozen_setCell]; exact hf k⟩
theorem Six.set3 {w : World} {B : Nat} {c0 c1 c2 c3 c4 c5 : Value} (h : Six w B c0 c1 c2 c3 c4 c5) (x : Value) : Six (w.setCell ⟨B, 3, none⟩ x) B c0 c1 c2 x c4 c5 := by
  obtain ⟨h0, h1, h2, h3, h4, h5, hf⟩ := h
  exact ⟨(World.cell?_setCell_other _ _ _ _ (six_off (by decide))).trans h0, (World.cell?_setCell_other _ _ _ _ (six_off (by decide))).trans h1, (World.cell?_setCell_other _ _ _ _ (six_off (by decide))).trans h2, World.cell?_setCell_same _ _ _ h3, (World.cell?_setCell_other _ _ _ _ (six_off (by decide))).trans h4, (World.cell?_setCell_other _ _ _ _ (six_off (by decide))).trans h5, fun k => by rw [frozen_setCell]; exact hf k⟩
theorem Six.set4 {w : World} {B : Nat} {c0 c1 c2 c3 c4 c5 : Value} (h : Six w B c0 c1 c2 c3 c4 c5) (x : Value) : Six (w.setCell ⟨B, 4, none⟩ x) B c0 c1 c2 c3 x c5 := by
  obtain ⟨h0, h1, h2, h3, h4, h5, hf⟩ := h
  exact ⟨(World.cell?_setCell_other _ _ _ _ (six_off (by decide))).trans h0, (World.cell?_setCell_other _ _ _ _ (six_off (by decide))).trans h1, (World.cell?_setCell_other _ _ _ _ (six_off (by decide))).trans h2, (World.cell?_setCell_other _ _ _ _ (six_off (by decide))).trans h3, World.cell?_setCell_same _ _ _ h4, (World.cell?_setCell_other _ _ _ _ (six_off (by decide))).trans h5, fun k => by rw [frozen_setCell]; exact hf k⟩
theorem Six.set5 {w : World} {B : Nat} {c0 c1 c2 c3 c4 c5 : Value} (h : Six w B c0 c1 c2 c3 c4 c5) (x : Value) : Six (w.setCell ⟨B, 5, none⟩ x) B c0 c1 c2 c3 c4 x := by
  obtain ⟨h0, h1, h2, h3, h4, h5, hf⟩ := h
  exact ⟨(World.cell?_setCell_other _ _ _ _ (six_off (by decide))).trans h0, (World.cell?_setCell_other _ _ _ _ (six_off (by decide))).trans h1, (World.cell?_setCell_other _ _ _ _ (six_off (by decide))).trans h2, (World.cell?_setCell_other _ _ _ _ (six_off (by decide))).trans h3, (World.cell?_setCell_other _ _ _ _ (six_off (by decide))).trans h4, World.cell?_setCell_same _ _ _ h5, fun k => by rw [frozen_setCell]; exact hf k⟩
/-- A struct of six stored to a box. -/
def put6 (W : World) (b : Nat) (v0 v1 v2 v3 v4 v5 : Value) : World := (((((W.setCell ⟨b, 0, none⟩ v0).setCell ⟨b, 1, none⟩ v1).setCell ⟨b, 2, none⟩ v2).setCell ⟨b, 3, none⟩ v3).setCell ⟨b, 4, none⟩ v4).setCell ⟨b, 5, none⟩ v5
theorem put6_six {W : World} {b : Nat} {a0 a1 a2 a3 a4 a5 : Value} (h : Six W b a0 a1 a2 a3 a4 a5) (v0 v1 v2 v3 v4 v5 : Value) : Six (put6 W b v0 v1 v2 v3 v4 v5) b v0 v1 v2 v3 v4 v5 :=
  (((((h.set0 v0).set1 v1).set2 v2).set3 v3).set4 v4).set5 v5
theorem put6_kept (W : World) (b : Nat) (v0 v1 v2 v3 v4 v5 : Value) : Kept (fun x => x = b) W (put6 W b v0 v1 v2 v3 v4 v5) :=
  ((((((Kept.refl (fun x => x = b) W).setCell (fun _ => rfl) _).setCell (fun _ => rfl) _).setCell (fun _ => rfl) _).setCell (fun _ => rfl) _).setCell (fun _ => rfl) _).setCell (fun _ => rfl) _
theorem six_of {W : World} {b : Nat} {c0 c1 c2 c3 c4 c5 : Value} {t : TypeId} (h : W.heap[b]? = some (.cells #[c0, c1, c2, c3, c4, c5] t (0, 0))) : Six W b c0 c1 c2 c3 c4 c5 := by
  refine ⟨?_, ?_, ?_, ?_, ?_, ?_, fun k => Lib.frozen_of_heap h k⟩
  iterate 6 (rw [Lib.cell_of_heap h]; rfl)
/-- What holds in the course of the copying, whichever operations have come up. -/
def CpI (W1 : World) (B : Nat) (v gv uv dv : Value) (m : Mid) (l : Array Bool) (a : Act) (w : World) : Prop :=
  ∃ s3 s4 s5 s6 s7 s8 s9 s10 s11 s12 s13 s14 s15 s16 s17 s18 c0 c1 c2 : Value, a = { tmps := #[v, .pointer (some ⟨B, 0, none⟩), .pointer (some ⟨B + 1, 0, none⟩), s3, s4, s5, s6, s7, s8, s9, s10, s11, s12, s13, s14, s15, s16, s17, s18], defers := [] } ∧ Six w B c0 c1 c2 (zV m.gs) (zV m.us) (zV m.ds) ∧ Kept (fun b => b = B) W1 w ∧
    (Up l 0 → ∃ z, s3 = .slice (some z) 0 0) ∧
    (Up l 4 → ∃ z, s7 = .slice (some z) 0 0) ∧
    (Up l 8 → ∃ z, s11 = .slice (some z) 0 0) ∧
    (Up l 1 → s4 = .pointer (some ⟨B, 0, none⟩)) ∧
    (Up l 5 → s8 = .pointer (some ⟨B, 1, none⟩)) ∧
    (Up l 9 → s12 = .pointer (some ⟨B, 2, none⟩)) ∧
    (Up l 12 → s15 = .pointer (some ⟨B, 0, none⟩)) ∧
    (Up l 14 → s16 = .pointer (some ⟨B, 1, none⟩)) ∧
    (Up l 16 → s17 = .pointer (some ⟨B, 2, none⟩)) ∧
    (Up l 2 → s5 = gv) ∧
    (Up l 6 → s9 = uv) ∧
    (Up l 10 → s13 = dv) ∧
    (Up l 3 → OwnR W1 w s6 m.g) ∧
    (Up l 7 → OwnR W1 w s10 m.u) ∧
    (Up l 11 → OwnR W1 w s14 m.d) ∧
    (Up l 13 → c0 = s6) ∧
    (¬ Up l 13 → c0 = gv) ∧
    (Up l 15 → c1 = s10) ∧
    (¬ Up l 15 → c1 = uv) ∧
    (Up l 17 → c2 = s14) ∧
    (¬ Up l 17 → c2 = dv) ∧
    (Up l 13 → Up l 2) ∧
    (Up l 15 → Up l 6) ∧
    (Up l 17 → Up l 10) ∧
    (Up l 13 → Up l 3) ∧
    (Up l 15 → Up l 7) ∧
    (Up l 17 → Up l 11)

set_option maxHeartbeats 4000000 in
set_option maxRecDepth 100000 in
theorem copied_any (p : Nat → Prop) (v : Value) (m : Mid) (w : World) (hm : MidV p w v m) :
    Calls Tryd.prog 15 #[v] w fun e w' => ∃ v', e = .returned v' ∧ MidV (fun b => w.heap.size ≤ b ∧ b < w'.heap.size) w' v' m ∧ Fresh w w' := by
  obtain ⟨gv, uv, dv, rfl, hgr, hur, hdr, hi1, hi2, hi3⟩ := hm
  go_enter Tryd.func15, Tryd.ntmps15
  go_upto_region 1 with fail
  obtain ⟨W1, hW1⟩ : ∃ W1, (w.alloc (.cells #[gv, uv, dv, zV m.gs, zV m.us, zV m.ds] 36)).alloc (.cells #[.slice none 0 0, .slice none 0 0, .slice none 0 0, .int .i64 0, .int .i64 0, .int .i64 0] 36) = W1 := ⟨_, rfl⟩
  rw [hW1]
  have hF1 : Fresh w W1 := by rw [← hW1]; exact ((Kept.refl _ w).alloc _).alloc _
  have hsz : W1.heap.size = w.heap.size + 2 := by rw [← hW1, World.size_alloc, World.size_alloc]
  have hsix0 : Six W1 w.heap.size gv uv dv (zV m.gs) (zV m.us) (zV m.ds) := by
    have p1 : (w.alloc (.cells #[gv, uv, dv, zV m.gs, zV m.us, zV m.ds] 36)).heap[w.heap.size]? = some (.cells #[gv, uv, dv, zV m.gs, zV m.us, zV m.ds] 36 (0, 0)) := heap_alloc_new w _
    have : Six (w.alloc (.cells #[gv, uv, dv, zV m.gs, zV m.us, zV m.ds] 36)) w.heap.size gv uv dv (zV m.gs) (zV m.us) (zV m.ds) := by
      refine ⟨?_, ?_, ?_, ?_, ?_, ?_, fun k => ?_⟩
      iterate 6 (rw [Lib.cell_of_heap p1]; rfl)
      exact Lib.frozen_of_heap p1 k
    rw [← hW1]
    exact this.fresh ((Kept.refl _ _).alloc _)
  have hB1 : W1.heap[w.heap.size + 1]? = some (.cells #[.slice none 0 0, .slice none 0 0, .slice none 0 0, .int .i64 0, .int .i64 0, .int .i64 0] 36 (0, 0)) := by
    have := heap_alloc_new (w.alloc (.cells #[gv, uv, dv, zV m.gs, zV m.us, zV m.ds] 36)) (.cells #[.slice none 0 0, .slice none 0 0, .slice none 0 0, .int .i64 0, .int .i64 0, .int .i64 0] 36)
    rw [World.size_alloc, hW1] at this
    exact this
  have hBW : w.heap.size < W1.heap.size := by omega
  have Hhgr : ∀ X, Kept (fun b => b = w.heap.size) W1 X → Rk .i8 (fun b => b < w.heap.size) X gv m.g := fun X hk => (hgr.low.fresh hF1).kept hk (fun b hb e => by omega)
  have Hhur : ∀ X, Kept (fun b => b = w.heap.size) W1 X → Rk .i8 (fun b => b < w.heap.size) X uv m.u := fun X hk => (hur.low.fresh hF1).kept hk (fun b hb e => by omega)
  have Hhdr : ∀ X, Kept (fun b => b = w.heap.size) W1 X → Rk .i8 (fun b => b < w.heap.size) X dv m.d := fun X hk => (hdr.low.fresh hF1).kept hk (fun b hb e => by omega)
  clear hgr hur hdr
  refine region_inv (by kernel_rfl) (CpI W1 w.heap.size (.agg #[gv, uv, dv, zV m.gs, zV m.us, zV m.ds]) gv uv dv m) (by kernel_rfl) ?step ?start ?done
  case start =>
    refine ⟨_, _, _, _, _, _, _, _, _, _, _, _, _, _, _, _, _, _, _, rfl, hsix0.fresh (Kept.refl _ _).drew, (Kept.refl _ _).drew, fun u => absurd u (not_up0 _ _), fun u => absurd u (not_up0 _ _), fun u => absurd u (not_up0 _ _), fun u => absurd u (not_up0 _ _), fun u => absurd u (not_up0 _ _), fun u => absurd u (not_up0 _ _), fun u => absurd u (not_up0 _ _), fun u => absurd u (not_up0 _ _), fun u => absurd u (not_up0 _ _), fun u => absurd u (not_up0 _ _), fun u => absurd u (not_up0 _ _), fun u => absurd u (not_up0 _ _), fun u => absurd u (not_up0 _ _), fun u => absurd u (not_up0 _ _), fun u => absurd u (not_up0 _ _), fun u => absurd u (not_up0 _ _), fun _ => rfl, fun u => absurd u (not_up0 _ _), fun _ => rfl, fun u => absurd u (not_up0 _ _), fun _ => rfl, fun u => absurd u (not_up0 _ _), fun u => absurd u (not_up0 _ _), fun u => absurd u (not_up0 _ _), fun u => absurd u (not_up0 _ _), fun u => absurd u (not_up0 _ _), fun u => absurd u (not_up0 _ _)⟩
  case step =>
    intro l a X hl hI i o ho hlt hn hd K hK
    obtain ⟨s3, s4, s5, s6, s7, s8, s9, s10, s11, s12, s13, s14, s15, s16, s17, s18, c0, c1, c2, rfl, hsix, hk, b0, b4, b8, f1, f5, f9, f12, f14, f16, l2, l6, l10, a3, a7, a11, t13, n13, t15, n15, t17, n17, d13, d15, d17, e13, e15, e17⟩ := hI
    have hl : l.size = 18 := hl
    have hlt : i < 18 := hlt
    have hc : i = 0 ∨ i = 1 ∨ i = 2 ∨ i = 3 ∨ i = 4 ∨ i = 5 ∨ i = 6 ∨ i = 7 ∨ i = 8 ∨ i = 9 ∨ i = 10 ∨ i = 11 ∨ i = 12 ∨ i = 13 ∨ i = 14 ∨ i = 15 ∨ i = 16 ∨ i = 17 := by omega
    rcases hc with rfl | rfl | rfl | rfl | rfl | rfl | rfl | rfl | rfl | rfl | rfl | rfl | rfl | rfl | rfl | rfl | rfl | rfl
    · simp only [List.getElem?_toArray, List.getElem?_cons_zero, Option.some.injEq] at ho
      subst ho
      clear hd
      go_simp
      exact hK _ _ ⟨_, s4, s5, s6, s7, s8, s9, s10, s11, s12, s13, s14, s15, s16, s17, s18, c0, c1, c2, rfl, hsix.fresh ((Kept.refl _ X).alloc _), hk.alloc _, fun _ => ⟨_, rfl⟩, fun u => b4 ((up_set_ne (by decide)).1 u), fun u => b8 ((up_set_ne (by decide)).1 u), fun u => f1 ((up_set_ne (by decide)).1 u), fun u => f5 ((up_set_ne (by decide)).1 u), fun u => f9 ((up_set_ne (by decide)).1 u), fun u => f12 ((up_set_ne (by decide)).1 u), fun u => f14 ((up_set_ne (by decide)).1 u), fun u => f16 ((up_set_ne (by decide)).1 u), fun u => l2 ((up_set_ne (by decide)).1 u), fun u => l6 ((up_set_ne (by decide)).1 u), fun u => l10 ((up_set_ne (by decide)).1 u), fun u => (a3 ((up_set_ne (by decide)).1 u)).kept (B := w.heap.size) (((Kept.refl _ X).alloc _).mono (fun _ _ (e : False) => e.elim)) hBW, fun u => (a7 ((up_set_ne (by decide)).1 u)).kept (B := w.heap.size) (((Kept.refl _ X).alloc _).mono (fun _ _ (e : False) => e.elim)) hBW, fun u => (a11 ((up_set_ne (by decide)).1 u)).kept (B := w.heap.size) (((Kept.refl _ X).alloc _).mono (fun _ _ (e : False) => e.elim)) hBW, fun u => t13 ((up_set_ne (by decide)).1 u), fun u => n13 (fun e => u ((up_set_ne (by decide)).2 e)), fun u => t15 ((up_set_ne (by decide)).1 u), fun u => n15 (fun e => u ((up_set_ne (by decide)).2 e)), fun u => t17 ((up_set_ne (by decide)).1 u), fun u => n17 (fun e => u ((up_set_ne (by decide)).2 e)), fun u => (up_set_ne (by decide)).2 (d13 ((up_set_ne (by decide)).1 u)), fun u => (up_set_ne (by decide)).2 (d15 ((up_set_ne (by decide)).1 u)), fun u => (up_set_ne (by decide)).2 (d17 ((up_set_ne (by decide)).1 u)), fun u => (up_set_ne (by decide)).2 (e13 ((up_set_ne (by decide)).1 u)), fun u => (up_set_ne (by decide)).2 (e15 ((up_set_ne (by decide)).1 u)), fun u => (up_set_ne (by decide)).2 (e17 ((up_set_ne (by decide)).1 u))⟩
    · simp only [List.getElem?_toArray, List.getElem?_cons_succ, List.getElem?_cons_zero, Option.some.injEq] at ho
      subst ho
      clear hd
      go_simp
      exact hK _ _ ⟨s3, _, s5, s6, s7, s8, s9, s10, s11, s12, s13, s14, s15, s16, s17, s18, c0, c1, c2, rfl, hsix, hk, fun u => b0 ((up_set_ne (by decide)).1 u), fun u => b4 ((up_set_ne (by decide)).1 u), fun u => b8 ((up_set_ne (by decide)).1 u), fun _ => rfl, fun u => f5 ((up_set_ne (by decide)).1 u), fun u => f9 ((up_set_ne (by decide)).1 u), fun u => f12 ((up_set_ne (by decide)).1 u), fun u => f14 ((up_set_ne (by decide)).1 u), fun u => f16 ((up_set_ne (by decide)).1 u), fun u => l2 ((up_set_ne (by decide)).1 u), fun u => l6 ((up_set_ne (by decide)).1 u), fun u => l10 ((up_set_ne (by decide)).1 u), fun u => a3 ((up_set_ne (by decide)).1 u), fun u => a7 ((up_set_ne (by decide)).1 u), fun u => a11 ((up_set_ne (by decide)).1 u), fun u => t13 ((up_set_ne (by decide)).1 u), fun u => n13 (fun e => u ((up_set_ne (by decide)).2 e)), fun u => t15 ((up_set_ne (by decide)).1 u), fun u => n15 (fun e => u ((up_set_ne (by decide)).2 e)), fun u => t17 ((up_set_ne (by decide)).1 u), fun u => n17 (fun e => u ((up_set_ne (by decide)).2 e)), fun u => (up_set_ne (by decide)).2 (d13 ((up_set_ne (by decide)).1 u)), fun u => (up_set_ne (by decide)).2 (d15 ((up_set_ne (by decide)).1 u)), fun u => (up_set_ne (by decide)).2 (d17 ((up_set_ne (by decide)).1 u)), fun u => (up_set_ne (by decide)).2 (e13 ((up_set_ne (by decide)).1 u)), fun u => (up_set_ne (by decide)).2 (e15 ((up_set_ne (by decide)).1 u)), fun u => (up_set_ne (by decide)).2 (e17 ((up_set_ne (by decide)).1 u))⟩
    · simp only [List.getElem?_toArray, List.getElem?_cons_succ, List.getElem?_cons_zero, Option.some.injEq] at ho
      subst ho
      simp only [Array.mem_def, List.mem_cons, List.not_mem_nil, or_false, forall_eq] at hd
      obtain rfl := f1 (hd rfl)
      have hnu : ¬ Up l 13 := fun u => hn (d13 u)
      obtain rfl := n13 hnu
      obtain ⟨q0, q1, q2, q3, q4, q5, qf⟩ := id hsix
      go_simp
      exact hK _ _ ⟨s3, _, _, s6, s7, s8, s9, s10, s11, s12, s13, s14, s15, s16, s17, s18, _, c1, c2, rfl, hsix, hk, fun u => b0 ((up_set_ne (by decide)).1 u), fun u => b4 ((up_set_ne (by decide)).1 u), fun u => b8 ((up_set_ne (by decide)).1 u), fun u => f1 ((up_set_ne (by decide)).1 u), fun u => f5 ((up_set_ne (by decide)).1 u), fun u => f9 ((up_set_ne (by decide)).1 u), fun u => f12 ((up_set_ne (by decide)).1 u), fun u => f14 ((up_set_ne (by decide)).1 u), fun u => f16 ((up_set_ne (by decide)).1 u), fun _ => rfl, fun u => l6 ((up_set_ne (by decide)).1 u), fun u => l10 ((up_set_ne (by decide)).1 u), fun u => a3 ((up_set_ne (by decide)).1 u), fun u => a7 ((up_set_ne (by decide)).1 u), fun u => a11 ((up_set_ne (by decide)).1 u), fun u => t13 ((up_set_ne (by decide)).1 u), fun u => n13 (fun e => u ((up_set_ne (by decide)).2 e)), fun u => t15 ((up_set_ne (by decide)).1 u), fun u => n15 (fun e => u ((up_set_ne (by decide)).2 e)), fun u => t17 ((up_set_ne (by decide)).1 u), fun u => n17 (fun e => u ((up_set_ne (by decide)).2 e)), fun _ => up_set_same (by omega), fun u => (up_set_ne (by decide)).2 (d15 ((up_set_ne (by decide)).1 u)), fun u => (up_set_ne (by decide)).2 (d17 ((up_set_ne (by decide)).1 u)), fun u => (up_set_ne (by decide)).2 (e13 ((up_set_ne (by decide)).1 u)), fun u => (up_set_ne (by decide)).2 (e15 ((up_set_ne (by decide)).1 u)), fun u => (up_set_ne (by decide)).2 (e17 ((up_set_ne (by decide)).1 u))⟩
    · simp only [List.getElem?_toArray, List.getElem?_cons_succ, List.getElem?_cons_zero, Option.some.injEq] at ho
      subst ho
      simp only [Array.mem_def, List.mem_cons, List.not_mem_nil, or_false, forall_eq_or_imp, forall_eq] at hd
      obtain ⟨z0, rfl⟩ := b0 (hd.1 rfl)
      obtain rfl := l2 (hd.2 rfl)
      refine step_twin rfl _ _ _ _ rfl _ _ rfl (by rfl) _ (twin0 ty8 _ X z0 _ _ _ (Hhgr X hk)) ?_
      rintro _ Y ⟨ta, tc, rfl, hFY, hRY⟩
      exact hK _ _ ⟨_, s4, _, _, s7, s8, s9, s10, s11, s12, s13, s14, s15, s16, s17, s18, c0, c1, c2, rfl, hsix.fresh (hFY), hk.trans hFY (fun _ _ (e : False) => e.elim), fun u => b0 ((up_set_ne (by decide)).1 u), fun u => b4 ((up_set_ne (by decide)).1 u), fun u => b8 ((up_set_ne (by decide)).1 u), fun u => f1 ((up_set_ne (by decide)).1 u), fun u => f5 ((up_set_ne (by decide)).1 u), fun u => f9 ((up_set_ne (by decide)).1 u), fun u => f12 ((up_set_ne (by decide)).1 u), fun u => f14 ((up_set_ne (by decide)).1 u), fun u => f16 ((up_set_ne (by decide)).1 u), fun u => l2 ((up_set_ne (by decide)).1 u), fun u => l6 ((up_set_ne (by decide)).1 u), fun u => l10 ((up_set_ne (by decide)).1 u), fun _ => ⟨⟨_, _, _, rfl⟩, hRY.mono (fun b hb => ⟨Nat.le_trans hk.size hb.1, hb.2⟩)⟩, fun u => (a7 ((up_set_ne (by decide)).1 u)).kept (B := w.heap.size) ((hFY).mono (fun _ _ (e : False) => e.elim)) hBW, fun u => (a11 ((up_set_ne (by decide)).1 u)).kept (B := w.heap.size) ((hFY).mono (fun _ _ (e : False) => e.elim)) hBW, fun u => absurd (e13 ((up_set_ne (by decide)).1 u)) hn, fun u => n13 (fun e => u ((up_set_ne (by decide)).2 e)), fun u => t15 ((up_set_ne (by decide)).1 u), fun u => n15 (fun e => u ((up_set_ne (by decide)).2 e)), fun u => t17 ((up_set_ne (by decide)).1 u), fun u => n17 (fun e => u ((up_set_ne (by decide)).2 e)), fun u => (up_set_ne (by decide)).2 (d13 ((up_set_ne (by decide)).1 u)), fun u => (up_set_ne (by decide)).2 (d15 ((up_set_ne (by decide)).1 u)), fun u => (up_set_ne (by decide)).2 (d17 ((up_set_ne (by decide)).1 u)), fun _ => up_set_same (by omega), fun u => (up_set_ne (by decide)).2 (e15 ((up_set_ne (by decide)).1 u)), fun u => (up_set_ne (by decide)).2 (e17 ((up_set_ne (by decide)).1 u))⟩
    · simp only [List.getElem?_toArray, List.getElem?_cons_succ, List.getElem?_cons_zero, Option.some.injEq] at ho
      subst ho
      clear hd
      go_simp
      exact hK _ _ ⟨s3, s4, s5, s6, _, s8, s9, s10, s11, s12, s13, s14, s15, s16, s17, s18, c0, c1, c2, rfl, hsix.fresh ((Kept.refl _ X).alloc _), hk.alloc _, fun u => b0 ((up_set_ne (by decide)).1 u), fun _ => ⟨_, rfl⟩, fun u => b8 ((up_set_ne (by decide)).1 u), fun u => f1 ((up_set_ne (by decide)).1 u), fun u => f5 ((up_set_ne (by decide)).1 u), fun u => f9 ((up_set_ne (by decide)).1 u), fun u => f12 ((up_set_ne (by decide)).1 u), fun u => f14 ((up_set_ne (by decide)).1 u), fun u => f16 ((up_set_ne (by decide)).1 u), fun u => l2 ((up_set_ne (by decide)).1 u), fun u => l6 ((up_set_ne (by decide)).1 u), fun u => l10 ((up_set_ne (by decide)).1 u), fun u => (a3 ((up_set_ne (by decide)).1 u)).kept (B := w.heap.size) (((Kept.refl _ X).alloc _).mono (fun _ _ (e : False) => e.elim)) hBW, fun u => (a7 ((up_set_ne (by decide)).1 u)).kept (B := w.heap.size) (((Kept.refl _ X).alloc _).mono (fun _ _ (e : False) => e.elim)) hBW, fun u => (a11 ((up_set_ne (by decide)).1 u)).kept (B := w.heap.size) (((Kept.refl _ X).alloc _).mono (fun _ _ (e : False) => e.elim)) hBW, fun u => t13 ((up_set_ne (by decide)).1 u), fun u => n13 (fun e => u ((up_set_ne (by decide)).2 e)), fun u => t15 ((up_set_ne (by decide)).1 u), fun u => n15 (fun e => u ((up_set_ne (by decide)).2 e)), fun u => t17 ((up_set_ne (by decide)).1 u), fun u => n17 (fun e => u ((up_set_ne (by decide)).2 e)), fun u => (up_set_ne (by decide)).2 (d13 ((up_set_ne (by decide)).1 u)), fun u => (up_set_ne (by decide)).2 (d15 ((up_set_ne (by decide)).1 u)), fun u => (up_set_ne (by decide)).2 (d17 ((up_set_ne (by decide)).1 u)), fun u => (up_set_ne (by decide)).2 (e13 ((up_set_ne (by decide)).1 u)), fun u => (up_set_ne (by decide)).2 (e15 ((up_set_ne (by decide)).1 u)), fun u => (up_set_ne (by decide)).2 (e17 ((up_set_ne (by decide)).1 u))⟩
    · simp only [List.getElem?_toArray, List.getElem?_cons_succ, List.getElem?_cons_zero, Option.some.injEq] at ho
      subst ho
      clear hd
      go_simp
      exact hK _ _ ⟨s3, s4, s5, s6, s7, _, s9, s10, s11, s12, s13, s14, s15, s16, s17, s18, c0, c1, c2, rfl, hsix, hk, fun u => b0 ((up_set_ne (by decide)).1 u), fun u => b4 ((up_set_ne (by decide)).1 u), fun u => b8 ((up_set_ne (by decide)).1 u), fun u => f1 ((up_set_ne (by decide)).1 u), fun _ => rfl, fun u => f9 ((up_set_ne (by decide)).1 u), fun u => f12 ((up_set_ne (by decide)).1 u), fun u => f14 ((up_set_ne (by decide)).1 u), fun u => f16 ((up_set_ne (by decide)).1 u), fun u => l2 ((up_set_ne (by decide)).1 u), fun u => l6 ((up_set_ne (by decide)).1 u), fun u => l10 ((up_set_ne (by decide)).1 u), fun u => a3 ((up_set_ne (by decide)).1 u), fun u => a7 ((up_set_ne (by decide)).1 u), fun u => a11 ((up_set_ne (by decide)).1 u), fun u => t13 ((up_set_ne (by decide)).1 u), fun u => n13 (fun e => u ((up_set_ne (by decide)).2 e)), fun u => t15 ((up_set_ne (by decide)).1 u), fun u => n15 (fun e => u ((up_set_ne (by decide)).2 e)), fun u => t17 ((up_set_ne (by decide)).1 u), fun u => n17 (fun e => u ((up_set_ne (by decide)).2 e)), fun u => (up_set_ne (by decide)).2 (d13 ((up_set_ne (by decide)).1 u)), fun u => (up_set_ne (by decide)).2 (d15 ((up_set_ne (by decide)).1 u)), fun u => (up_set_ne (by decide)).2 (d17 ((up_set_ne (by decide)).1 u)), fun u => (up_set_ne (by decide)).2 (e13 ((up_set_ne (by decide)).1 u)), fun u => (up_set_ne (by decide)).2 (e15 ((up_set_ne (by decide)).1 u)), fun u => (up_set_ne (by decide)).2 (e17 ((up_set_ne (by decide)).1 u))⟩
    · simp only [List.getElem?_toArray, List.getElem?_cons_succ, List.getElem?_cons_zero, Option.some.injEq] at ho
      subst ho
      simp only [Array.mem_def, List.mem_cons, List.not_mem_nil, or_false, forall_eq] at hd
      obtain rfl := f5 (hd rfl)
      have hnu : ¬ Up l 15 := fun u => hn (d15 u)
      obtain rfl := n15 hnu
      obtain ⟨q0, q1, q2, q3, q4, q5, qf⟩ := id hsix
      go_simp
      exact hK _ _ ⟨s3, s4, s5, s6, s7, _, _, s10, s11, s12, s13, s14, s15, s16, s17, s18, c0, _, c2, rfl, hsix, hk, fun u => b0 ((up_set_ne (by decide)).1 u), fun u => b4 ((up_set_ne (by decide)).1 u), fun u => b8 ((up_set_ne (by decide)).1 u), fun u => f1 ((up_set_ne (by decide)).1 u), fun u => f5 ((up_set_ne (by decide)).1 u), fun u => f9 ((up_set_ne (by decide)).1 u), fun u => f12 ((up_set_ne (by decide)).1 u), fun u => f14 ((up_set_ne (by decide)).1 u), fun u => f16 ((up_set_ne (by decide)).1 u), fun u => l2 ((up_set_ne (by decide)).1 u), fun _ => rfl, fun u => l10 ((up_set_ne (by decide)).1 u), fun u => a3 ((up_set_ne (by decide)).1 u), fun u => a7 ((up_set_ne (by decide)).1 u), fun u => a11 ((up_set_ne (by decide)).1 u), fun u => t13 ((up_set_ne (by decide)).1 u), fun u => n13 (fun e => u ((up_set_ne (by decide)).2 e)), fun u => t15 ((up_set_ne (by decide)).1 u), fun u => n15 (fun e => u ((up_set_ne (by decide)).2 e)), fun u => t17 ((up_set_ne (by decide)).1 u), fun u => n17 (fun e => u ((up_set_ne (by decide)).2 e)), fun u => (up_set_ne (by decide)).2 (d13 ((up_set_ne (by decide)).1 u)), fun _ => up_set_same (by omega), fun u => (up_set_ne (by decide)).2 (d17 ((up_set_ne (by decide)).1 u)), fun u => (up_set_ne (by decide)).2 (e13 ((up_set_ne (by decide)).1 u)), fun u => (up_set_ne (by decide)).2 (e15 ((up_set_ne (by decide)).1 u)), fun u => (up_set_ne (by decide)).2 (e17 ((up_set_ne (by decide)).1 u))⟩
    · simp only [List.getElem?_toArray, List.getElem?_cons_succ, List.getElem?_cons_zero, Option.some.injEq] at ho
      subst ho
      simp only [Array.mem_def, List.mem_cons, List.not_mem_nil, or_false, forall_eq_or_imp, forall_eq] at hd
      obtain ⟨z0, rfl⟩ := b4 (hd.1 rfl)
      obtain rfl := l6 (hd.2.1 rfl)
      refine step_twin rfl _ _ _ _ rfl _ _ rfl (by rfl) _ (twin0 ty8 _ X z0 _ _ _ (Hhur X hk)) ?_
      rintro _ Y ⟨ta, tc, rfl, hFY, hRY⟩
      exact hK _ _ ⟨s3, s4, s5, s6, _, s8, _, _, s11, s12, s13, s14, s15, s16, s17, s18, c0, c1, c2, rfl, hsix.fresh (hFY), hk.trans hFY (fun _ _ (e : False) => e.elim), fun u => b0 ((up_set_ne (by decide)).1 u), fun u => b4 ((up_set_ne (by decide)).1 u), fun u => b8 ((up_set_ne (by decide)).1 u), fun u => f1 ((up_set_ne (by decide)).1 u), fun u => f5 ((up_set_ne (by decide)).1 u), fun u => f9 ((up_set_ne (by decide)).1 u), fun u => f12 ((up_set_ne (by decide)).1 u), fun u => f14 ((up_set_ne (by decide)).1 u), fun u => f16 ((up_set_ne (by decide)).1 u), fun u => l2 ((up_set_ne (by decide)).1 u), fun u => l6 ((up_set_ne (by decide)).1 u), fun u => l10 ((up_set_ne (by decide)).1 u), fun u => (a3 ((up_set_ne (by decide)).1 u)).kept (B := w.heap.size) ((hFY).mono (fun _ _ (e : False) => e.elim)) hBW, fun _ => ⟨⟨_, _, _, rfl⟩, hRY.mono (fun b hb => ⟨Nat.le_trans hk.size hb.1, hb.2⟩)⟩, fun u => (a11 ((up_set_ne (by decide)).1 u)).kept (B := w.heap.size) ((hFY).mono (fun _ _ (e : False) => e.elim)) hBW, fun u => t13 ((up_set_ne (by decide)).1 u), fun u => n13 (fun e => u ((up_set_ne (by decide)).2 e)), fun u => absurd (e15 ((up_set_ne (by decide)).1 u)) hn, fun u => n15 (fun e => u ((up_set_ne (by decide)).2 e)), fun u => t17 ((up_set_ne (by decide)).1 u), fun u => n17 (fun e => u ((up_set_ne (by decide)).2 e)), fun u => (up_set_ne (by decide)).2 (d13 ((up_set_ne (by decide)).1 u)), fun u => (up_set_ne (by decide)).2 (d15 ((up_set_ne (by decide)).1 u)), fun u => (up_set_ne (by decide)).2 (d17 ((up_set_ne (by decide)).1 u)), fun u => (up_set_ne (by decide)).2 (e13 ((up_set_ne (by decide)).1 u)), fun _ => up_set_same (by omega), fun u => (up_set_ne (by decide)).2 (e17 ((up_set_ne (by decide)).1 u))⟩
    · simp only [List.getElem?_toArray, List.getElem?_cons_succ, List.getElem?_cons_zero, Option.some.injEq] at ho
      subst ho
      clear hd
      go_simp
      exact hK _ _ ⟨s3, s4, s5, s6, s7, s8, s9, s10, _, s12, s13, s14, s15, s16, s17, s18, c0, c1, c2, rfl, hsix.fresh ((Kept.refl _ X).alloc _), hk.alloc _, fun u => b0 ((up_set_ne (by decide)).1 u), fun u => b4 ((up_set_ne (by decide)).1 u), fun _ => ⟨_, rfl⟩, fun u => f1 ((up_set_ne (by decide)).1 u), fun u => f5 ((up_set_ne (by decide)).1 u), fun u => f9 ((up_set_ne (by decide)).1 u), fun u => f12 ((up_set_ne (by decide)).1 u), fun u => f14 ((up_set_ne (by decide)).1 u), fun u => f16 ((up_set_ne (by decide)).1 u), fun u => l2 ((up_set_ne (by decide)).1 u), fun u => l6 ((up_set_ne (by decide)).1 u), fun u => l10 ((up_set_ne (by decide)).1 u), fun u => (a3 ((up_set_ne (by decide)).1 u)).kept (B := w.heap.size) (((Kept.refl _ X).alloc _).mono (fun _ _ (e : False) => e.elim)) hBW, fun u => (a7 ((up_set_ne (by decide)).1 u)).kept (B := w.heap.size) (((Kept.refl _ X).alloc _).mono (fun _ _ (e : False) => e.elim)) hBW, fun u => (a11 ((up_set_ne (by decide)).1 u)).kept (B := w.heap.size) (((Kept.refl _ X).alloc _).mono (fun _ _ (e : False) => e.elim)) hBW, fun u => t13 ((up_set_ne (by decide)).1 u), fun u => n13 (fun e => u ((up_set_ne (by decide)).2 e)), fun u => t15 ((up_set_ne (by decide)).1 u), fun u => n15 (fun e => u ((up_set_ne (by decide)).2 e)), fun u => t17 ((up_set_ne (by decide)).1 u), fun u => n17 (fun e => u ((up_set_ne (by decide)).2 e)), fun u => (up_set_ne (by decide)).2 (d13 ((up_set_ne (by decide)).1 u)), fun u => (up_set_ne (by decide)).2 (d15 ((up_set_ne (by decide)).1 u)), fun u => (up_set_ne (by decide)).2 (d17 ((up_set_ne (by decide)).1 u)), fun u => (up_set_ne (by decide)).2 (e13 ((up_set_ne (by decide)).1 u)), fun u => (up_set_ne (by decide)).2 (e15 ((up_set_ne (by decide)).1 u)), fun u => (up_set_ne (by decide)).2 (e17 ((up_set_ne (by decide)).1 u))⟩
    · simp only [List.getElem?_toArray, List.getElem?_cons_succ, List.getElem?_cons_zero, Option.some.injEq] at ho
      subst ho
      clear hd
      go_simp
      exact hK _ _ ⟨s3, s4, s5, s6, s7, s8, s9, s10, s11, _, s13, s14, s15, s16, s17, s18, c0, c1, c2, rfl, hsix, hk, fun u => b0 ((up_set_ne (by decide)).1 u), fun u => b4 ((up_set_ne (by decide)).1 u), fun u => b8 ((up_set_ne (by decide)).1 u), fun u => f1 ((up_set_ne (by decide)).1 u), fun u => f5 ((up_set_ne (by decide)).1 u), fun _ => rfl, fun u => f12 ((up_set_ne (by decide)).1 u), fun u => f14 ((up_set_ne (by decide)).1 u), fun u => f16 ((up_set_ne (by decide)).1 u), fun u => l2 ((up_set_ne (by decide)).1 u), fun u => l6 ((up_set_ne (by decide)).1 u), fun u => l10 ((up_set_ne (by decide)).1 u), fun u => a3 ((up_set_ne (by decide)).1 u), fun u => a7 ((up_set_ne (by decide)).1 u), fun u => a11 ((up_set_ne (by decide)).1 u), fun u => t13 ((up_set_ne (by decide)).1 u), fun u => n13 (fun e => u ((up_set_ne (by decide)).2 e)), fun u => t15 ((up_set_ne (by decide)).1 u), fun u => n15 (fun e => u ((up_set_ne (by decide)).2 e)), fun u => t17 ((up_set_ne (by decide)).1 u), fun u => n17 (fun e => u ((up_set_ne (by decide)).2 e)), fun u => (up_set_ne (by decide)).2 (d13 ((up_set_ne (by decide)).1 u)), fun u => (up_set_ne (by decide)).2 (d15 ((up_set_ne (by decide)).1 u)), fun u => (up_set_ne (by decide)).2 (d17 ((up_set_ne (by decide)).1 u)), fun u => (up_set_ne (by decide)).2 (e13 ((up_set_ne (by decide)).1 u)), fun u => (up_set_ne (by decide)).2 (e15 ((up_set_ne (by decide)).1 u)), fun u => (up_set_ne (by decide)).2 (e17 ((up_set_ne (by decide)).1 u))⟩
    · simp only [List.getElem?_toArray, List.getElem?_cons_succ, List.getElem?_cons_zero, Option.some.injEq] at ho
      subst ho
      simp only [Array.mem_def, List.mem_cons, List.not_mem_nil, or_false, forall_eq] at hd
      obtain rfl := f9 (hd rfl)
      have hnu : ¬ Up l 17 := fun u => hn (d17 u)
      obtain rfl := n17 hnu
      obtain ⟨q0, q1, q2, q3, q4, q5, qf⟩ := id hsix
      go_simp
      exact hK _ _ ⟨s3, s4, s5, s6, s7, s8, s9, s10, s11, _, _, s14, s15, s16, s17, s18, c0, c1, _, rfl, hsix, hk, fun u => b0 ((up_set_ne (by decide)).1 u), fun u => b4 ((up_set_ne (by decide)).1 u), fun u => b8 ((up_set_ne (by decide)).1 u), fun u => f1 ((up_set_ne (by decide)).1 u), fun u => f5 ((up_set_ne (by decide)).1 u), fun u => f9 ((up_set_ne (by decide)).1 u), fun u => f12 ((up_set_ne (by decide)).1 u), fun u => f14 ((up_set_ne (by decide)).1 u), fun u => f16 ((up_set_ne (by decide)).1 u), fun u => l2 ((up_set_ne (by decide)).1 u), fun u => l6 ((up_set_ne (by decide)).1 u), fun _ => rfl, fun u => a3 ((up_set_ne (by decide)).1 u), fun u => a7 ((up_set_ne (by decide)).1 u), fun u => a11 ((up_set_ne (by decide)).1 u), fun u => t13 ((up_set_ne (by decide)).1 u), fun u => n13 (fun e => u ((up_set_ne (by decide)).2 e)), fun u => t15 ((up_set_ne (by decide)).1 u), fun u => n15 (fun e => u ((up_set_ne (by decide)).2 e)), fun u => t17 ((up_set_ne (by decide)).1 u), fun u => n17 (fun e => u ((up_set_ne (by decide)).2 e)), fun u => (up_set_ne (by decide)).2 (d13 ((up_set_ne (by decide)).1 u)), fun u => (up_set_ne (by decide)).2 (d15 ((up_set_ne (by decide)).1 u)), fun _ => up_set_same (by omega), fun u => (up_set_ne (by decide)).2 (e13 ((up_set_ne (by decide)).1 u)), fun u => (up_set_ne (by decide)).2 (e15 ((up_set_ne (by decide)).1 u)), fun u => (up_set_ne (by decide)).2 (e17 ((up_set_ne (by decide)).1 u))⟩
    · simp only [List.getElem?_toArray, List.getElem?_cons_succ, List.getElem?_cons_zero, Option.some.injEq] at ho
      subst ho
      simp only [Array.mem_def, List.mem_cons, List.not_mem_nil, or_false, forall_eq_or_imp, forall_eq] at hd
      obtain ⟨z0, rfl⟩ := b8 (hd.1 rfl)
      obtain rfl := l10 (hd.2.1 rfl)
      refine step_twin rfl _ _ _ _ rfl _ _ rfl (by rfl) _ (twin0 ty8 _ X z0 _ _ _ (Hhdr X hk)) ?_
      rintro _ Y ⟨ta, tc, rfl, hFY, hRY⟩
      exact hK _ _ ⟨s3, s4, s5, s6, s7, s8, s9, s10, _, s12, _, _, s15, s16, s17, s18, c0, c1, c2, rfl, hsix.fresh (hFY), hk.trans hFY (fun _ _ (e : False) => e.elim), fun u => b0 ((up_set_ne (by decide)).1 u), fun u => b4 ((up_set_ne (by decide)).1 u), fun u => b8 ((up_set_ne (by decide)).1 u), fun u => f1 ((up_set_ne (by decide)).1 u), fun u => f5 ((up_set_ne (by decide)).1 u), fun u => f9 ((up_set_ne (by decide)).1 u), fun u => f12 ((up_set_ne (by decide)).1 u), fun u => f14 ((up_set_ne (by decide)).1 u), fun u => f16 ((up_set_ne (by decide)).1 u), fun u => l2 ((up_set_ne (by decide)).1 u), fun u => l6 ((up_set_ne (by decide)).1 u), fun u => l10 ((up_set_ne (by decide)).1 u), fun u => (a3 ((up_set_ne (by decide)).1 u)).kept (B := w.heap.size) ((hFY).mono (fun _ _ (e : False) => e.elim)) hBW, fun u => (a7 ((up_set_ne (by decide)).1 u)).kept (B := w.heap.size) ((hFY).mono (fun _ _ (e : False) => e.elim)) hBW, fun _ => ⟨⟨_, _, _, rfl⟩, hRY.mono (fun b hb => ⟨Nat.le_trans hk.size hb.1, hb.2⟩)⟩, fun u => t13 ((up_set_ne (by decide)).1 u), fun u => n13 (fun e => u ((up_set_ne (by decide)).2 e)), fun u => t15 ((up_set_ne (by decide)).1 u), fun u => n15 (fun e => u ((up_set_ne (by decide)).2 e)), fun u => absurd (e17 ((up_set_ne (by decide)).1 u)) hn, fun u => n17 (fun e => u ((up_set_ne (by decide)).2 e)), fun u => (up_set_ne (by decide)).2 (d13 ((up_set_ne (by decide)).1 u)), fun u => (up_set_ne (by decide)).2 (d15 ((up_set_ne (by decide)).1 u)), fun u => (up_set_ne (by decide)).2 (d17 ((up_set_ne (by decide)).1 u)), fun u => (up_set_ne (by decide)).2 (e13 ((up_set_ne (by decide)).1 u)), fun u => (up_set_ne (by decide)).2 (e15 ((up_set_ne (by decide)).1 u)), fun _ => up_set_same (by omega)⟩
    · simp only [List.getElem?_toArray, List.getElem?_cons_succ, List.getElem?_cons_zero, Option.some.injEq] at ho
      subst ho
      clear hd
      go_simp
      exact hK _ _ ⟨s3, s4, s5, s6, s7, s8, s9, s10, s11, s12, s13, s14, _, s16, s17, s18, c0, c1, c2, rfl, hsix, hk, fun u => b0 ((up_set_ne (by decide)).1 u), fun u => b4 ((up_set_ne (by decide)).1 u), fun u => b8 ((up_set_ne (by decide)).1 u), fun u => f1 ((up_set_ne (by decide)).1 u), fun u => f5 ((up_set_ne (by decide)).1 u), fun u => f9 ((up_set_ne (by decide)).1 u), fun _ => rfl, fun u => f14 ((up_set_ne (by decide)).1 u), fun u => f16 ((up_set_ne (by decide)).1 u), fun u => l2 ((up_set_ne (by decide)).1 u), fun u => l6 ((up_set_ne (by decide)).1 u), fun u => l10 ((up_set_ne (by decide)).1 u), fun u => a3 ((up_set_ne (by decide)).1 u), fun u => a7 ((up_set_ne (by decide)).1 u), fun u => a11 ((up_set_ne (by decide)).1 u), fun u => t13 ((up_set_ne (by decide)).1 u), fun u => n13 (fun e => u ((up_set_ne (by decide)).2 e)), fun u => t15 ((up_set_ne (by decide)).1 u), fun u => n15 (fun e => u ((up_set_ne (by decide)).2 e)), fun u => t17 ((up_set_ne (by decide)).1 u), fun u => n17 (fun e => u ((up_set_ne (by decide)).2 e)), fun u => (up_set_ne (by decide)).2 (d13 ((up_set_ne (by decide)).1 u)), fun u => (up_set_ne (by decide)).2 (d15 ((up_set_ne (by decide)).1 u)), fun u => (up_set_ne (by decide)).2 (d17 ((up_set_ne (by decide)).1 u)), fun u => (up_set_ne (by decide)).2 (e13 ((up_set_ne (by decide)).1 u)), fun u => (up_set_ne (by decide)).2 (e15 ((up_set_ne (by decide)).1 u)), fun u => (up_set_ne (by decide)).2 (e17 ((up_set_ne (by decide)).1 u))⟩
    · simp only [List.getElem?_toArray, List.getElem?_cons_succ, List.getElem?_cons_zero, Option.some.injEq] at ho
      subst ho
      simp only [Array.mem_def, List.mem_cons, List.not_mem_nil, or_false, forall_eq_or_imp, forall_eq] at hd
      have hdep2 := hd.2.2.2.2.2.1
      have hdep3 := hd.2.1
      obtain rfl := f12 (hd.1 rfl)
      have ha := a3 (hd.2.1 rfl)
      obtain ⟨⟨xo, xn, xc, rfl⟩, _⟩ := id ha
      obtain ⟨q0, q1, q2, q3, q4, q5, qf⟩ := id hsix
      have qf0 := qf 0
      go_simp
      exact hK _ _ ⟨s3, s4, s5, _, s7, s8, s9, s10, s11, s12, s13, s14, _, s16, s17, s18, _, c1, c2, rfl, hsix.set0 _, hk.setCell (fun _ => rfl) _, fun u => b0 ((up_set_ne (by decide)).1 u), fun u => b4 ((up_set_ne (by decide)).1 u), fun u => b8 ((up_set_ne (by decide)).1 u), fun u => f1 ((up_set_ne (by decide)).1 u), fun u => f5 ((up_set_ne (by decide)).1 u), fun u => f9 ((up_set_ne (by decide)).1 u), fun u => f12 ((up_set_ne (by decide)).1 u), fun u => f14 ((up_set_ne (by decide)).1 u), fun u => f16 ((up_set_ne (by decide)).1 u), fun u => l2 ((up_set_ne (by decide)).1 u), fun u => l6 ((up_set_ne (by decide)).1 u), fun u => l10 ((up_set_ne (by decide)).1 u), fun u => (a3 ((up_set_ne (by decide)).1 u)).kept (B := w.heap.size) ((Kept.refl (fun b => b = w.heap.size) X).setCell (fun _ => rfl) _) hBW, fun u => (a7 ((up_set_ne (by decide)).1 u)).kept (B := w.heap.size) ((Kept.refl (fun b => b = w.heap.size) X).setCell (fun _ => rfl) _) hBW, fun u => (a11 ((up_set_ne (by decide)).1 u)).kept (B := w.heap.size) ((Kept.refl (fun b => b = w.heap.size) X).setCell (fun _ => rfl) _) hBW, fun _ => rfl, fun u => absurd (up_set_same (by omega)) u, fun u => t15 ((up_set_ne (by decide)).1 u), fun u => n15 (fun e => u ((up_set_ne (by decide)).2 e)), fun u => t17 ((up_set_ne (by decide)).1 u), fun u => n17 (fun e => u ((up_set_ne (by decide)).2 e)), fun _ => (up_set_ne (by decide)).2 (hdep2 rfl), fun u => (up_set_ne (by decide)).2 (d15 ((up_set_ne (by decide)).1 u)), fun u => (up_set_ne (by decide)).2 (d17 ((up_set_ne (by decide)).1 u)), fun _ => (up_set_ne (by decide)).2 (hdep3 rfl), fun u => (up_set_ne (by decide)).2 (e15 ((up_set_ne (by decide)).1 u)), fun u => (up_set_ne (by decide)).2 (e17 ((up_set_ne (by decide)).1 u))⟩
    · simp only [List.getElem?_toArray, List.getElem?_cons_succ, List.getElem?_cons_zero, Option.some.injEq] at ho
      subst ho
      clear hd
      go_simp
      exact hK _ _ ⟨s3, s4, s5, s6, s7, s8, s9, s10, s11, s12, s13, s14, s15, _, s17, s18, c0, c1, c2, rfl, hsix, hk, fun u => b0 ((up_set_ne (by decide)).1 u), fun u => b4 ((up_set_ne (by decide)).1 u), fun u => b8 ((up_set_ne (by decide)).1 u), fun u => f1 ((up_set_ne (by decide)).1 u), fun u => f5 ((up_set_ne (by decide)).1 u), fun u => f9 ((up_set_ne (by decide)).1 u), fun u => f12 ((up_set_ne (by decide)).1 u), fun _ => rfl, fun u => f16 ((up_set_ne (by decide)).1 u), fun u => l2 ((up_set_ne (by decide)).1 u), fun u => l6 ((up_set_ne (by decide)).1 u), fun u => l10 ((up_set_ne (by decide)).1 u), fun u => a3 ((up_set_ne (by decide)).1 u), fun u => a7 ((up_set_ne (by decide)).1 u), fun u => a11 ((up_set_ne (by decide)).1 u), fun u => t13 ((up_set_ne (by decide)).1 u), fun u => n13 (fun e => u ((up_set_ne (by decide)).2 e)), fun u => t15 ((up_set_ne (by decide)).1 u), fun u => n15 (fun e => u ((up_set_ne (by decide)).2 e)), fun u => t17 ((up_set_ne (by decide)).1 u), fun u => n17 (fun e => u ((up_set_ne (by decide)).2 e)), fun u => (up_set_ne (by decide)).2 (d13 ((up_set_ne (by decide)).1 u)), fun u => (up_set_ne (by decide)).2 (d15 ((up_set_ne (by decide)).1 u)), fun u => (up_set_ne (by decide)).2 (d17 ((up_set_ne (by decide)).1 u)), fun u => (up_set_ne (by decide)).2 (e13 ((up_set_ne (by decide)).1 u)), fun u => (up_set_ne (by decide)).2 (e15 ((up_set_ne (by decide)).1 u)), fun u => (up_set_ne (by decide)).2 (e17 ((up_set_ne (by decide)).1 u))⟩
    · simp only [List.getElem?_toArray, List.getElem?_cons_succ, List.getElem?_cons_zero, Option.some.injEq] at ho
      subst ho
      simp only [Array.mem_def, List.mem_cons, List.not_mem_nil, or_false, forall_eq_or_imp, forall_eq] at hd
      have hdep6 := hd.2.2.2.2.2.2.2.2.2.1
      have hdep7 := hd.2.1
      obtain rfl := f14 (hd.1 rfl)
      have ha := a7 (hd.2.1 rfl)
      obtain ⟨⟨xo, xn, xc, rfl⟩, _⟩ := id ha
      obtain ⟨q0, q1, q2, q3, q4, q5, qf⟩ := id hsix
      have qf1 := qf 1
      go_simp
      exact hK _ _ ⟨s3, s4, s5, s6, s7, s8, s9, _, s11, s12, s13, s14, s15, _, s17, s18, c0, _, c2, rfl, hsix.set1 _, hk.setCell (fun _ => rfl) _, fun u => b0 ((up_set_ne (by decide)).1 u), fun u => b4 ((up_set_ne (by decide)).1 u), fun u => b8 ((up_set_ne (by decide)).1 u), fun u => f1 ((up_set_ne (by decide)).1 u), fun u => f5 ((up_set_ne (by decide)).1 u), fun u => f9 ((up_set_ne (by decide)).1 u), fun u => f12 ((up_set_ne (by decide)).1 u), fun u => f14 ((up_set_ne (by decide)).1 u), fun u => f16 ((up_set_ne (by decide)).1 u), fun u => l2 ((up_set_ne (by decide)).1 u), fun u => l6 ((up_set_ne (by decide)).1 u), fun u => l10 ((up_set_ne (by decide)).1 u), fun u => (a3 ((up_set_ne (by decide)).1 u)).kept (B := w.heap.size) ((Kept.refl (fun b => b = w.heap.size) X).setCell (fun _ => rfl) _) hBW, fun u => (a7 ((up_set_ne (by decide)).1 u)).kept (B := w.heap.size) ((Kept.refl (fun b => b = w.heap.size) X).setCell (fun _ => rfl) _) hBW, fun u => (a11 ((up_set_ne (by decide)).1 u)).kept (B := w.heap.size) ((Kept.refl (fun b => b = w.heap.size) X).setCell (fun _ => rfl) _) hBW, fun u => t13 ((up_set_ne (by decide)).1 u), fun u => n13 (fun e => u ((up_set_ne (by decide)).2 e)), fun _ => rfl, fun u => absurd (up_set_same (by omega)) u, fun u => t17 ((up_set_ne (by decide)).1 u), fun u => n17 (fun e => u ((up_set_ne (by decide)).2 e)), fun u => (up_set_ne (by decide)).2 (d13 ((up_set_ne (by decide)).1 u)), fun _ => (up_set_ne (by decide)).2 (hdep6 rfl), fun u => (up_set_ne (by decide)).2 (d17 ((up_set_ne (by decide)).1 u)), fun u => (up_set_ne (by decide)).2 (e13 ((up_set_ne (by decide)).1 u)), fun _ => (up_set_ne (by decide)).2 (hdep7 rfl), fun u => (up_set_ne (by decide)).2 (e17 ((up_set_ne (by decide)).1 u))⟩
    · simp only [List.getElem?_toArray, List.getElem?_cons_succ, List.getElem?_cons_zero, Option.some.injEq] at ho
      subst ho
      clear hd
      go_simp
      exact hK _ _ ⟨s3, s4, s5, s6, s7, s8, s9, s10, s11, s12, s13, s14, s15, s16, _, s18, c0, c1, c2, rfl, hsix, hk, fun u => b0 ((up_set_ne (by decide)).1 u), fun u => b4 ((up_set_ne (by decide)).1 u), fun u => b8 ((up_set_ne (by decide)).1 u), fun u => f1 ((up_set_ne (by decide)).1 u), fun u => f5 ((up_set_ne (by decide)).1 u), fun u => f9 ((up_set_ne (by decide)).1 u), fun u => f12 ((up_set_ne (by decide)).1 u), fun u => f14 ((up_set_ne (by decide)).1 u), fun _ => rfl, fun u => l2 ((up_set_ne (by decide)).1 u), fun u => l6 ((up_set_ne (by decide)).1 u), fun u => l10 ((up_set_ne (by decide)).1 u), fun u => a3 ((up_set_ne (by decide)).1 u), fun u => a7 ((up_set_ne (by decide)).1 u), fun u => a11 ((up_set_ne (by decide)).1 u), fun u => t13 ((up_set_ne (by decide)).1 u), fun u => n13 (fun e => u ((up_set_ne (by decide)).2 e)), fun u => t15 ((up_set_ne (by decide)).1 u), fun u => n15 (fun e => u ((up_set_ne (by decide)).2 e)), fun u => t17 ((up_set_ne (by decide)).1 u), fun u => n17 (fun e => u ((up_set_ne (by decide)).2 e)), fun u => (up_set_ne (by decide)).2 (d13 ((up_set_ne (by decide)).1 u)), fun u => (up_set_ne (by decide)).2 (d15 ((up_set_ne (by decide)).1 u)), fun u => (up_set_ne (by decide)).2 (d17 ((up_set_ne (by decide)).1 u)), fun u => (up_set_ne (by decide)).2 (e13 ((up_set_ne (by decide)).1 u)), fun u => (up_set_ne (by decide)).2 (e15 ((up_set_ne (by decide)).1 u)), fun u => (up_set_ne (by decide)).2 (e17 ((up_set_ne (by decide)).1 u))⟩
    · simp only [List.getElem?_toArray, List.getElem?_cons_succ, List.getElem?_cons_zero, Option.some.injEq] at ho
      subst ho
      simp only [Array.mem_def, List.mem_cons, List.not_mem_nil, or_false, forall_eq_or_imp, forall_eq] at hd
      have hdep10 := hd.2.2.2.2.2.2.2.2.2.2.2.2.2.1
      have hdep11 := hd.2.1
      obtain rfl := f16 (hd.1 rfl)
      have ha := a11 (hd.2.1 rfl)
      obtain ⟨⟨xo, xn, xc, rfl⟩, _⟩ := id ha
      obtain ⟨q0, q1, q2, q3, q4, q5, qf⟩ := id hsix
      have qf2 := qf 2
      go_simp
      exact hK _ _ ⟨s3, s4, s5, s6, s7, s8, s9, s10, s11, s12, s13, _, s15, s16, _, s18, c0, c1, _, rfl, hsix.set2 _, hk.setCell (fun _ => rfl) _, fun u => b0 ((up_set_ne (by decide)).1 u), fun u => b4 ((up_set_ne (by decide)).1 u), fun u => b8 ((up_set_ne (by decide)).1 u), fun u => f1 ((up_set_ne (by decide)).1 u), fun u => f5 ((up_set_ne (by decide)).1 u), fun u => f9 ((up_set_ne (by decide)).1 u), fun u => f12 ((up_set_ne (by decide)).1 u), fun u => f14 ((up_set_ne (by decide)).1 u), fun u => f16 ((up_set_ne (by decide)).1 u), fun u => l2 ((up_set_ne (by decide)).1 u), fun u => l6 ((up_set_ne (by decide)).1 u), fun u => l10 ((up_set_ne (by decide)).1 u), fun u => (a3 ((up_set_ne (by decide)).1 u)).kept (B := w.heap.size) ((Kept.refl (fun b => b = w.heap.size) X).setCell (fun _ => rfl) _) hBW, fun u => (a7 ((up_set_ne (by decide)).1 u)).kept (B := w.heap.size) ((Kept.refl (fun b => b = w.heap.size) X).setCell (fun _ => rfl) _) hBW, fun u => (a11 ((up_set_ne (by decide)).1 u)).kept (B := w.heap.size) ((Kept.refl (fun b => b = w.heap.size) X).setCell (fun _ => rfl) _) hBW, fun u => t13 ((up_set_ne (by decide)).1 u), fun u => n13 (fun e => u ((up_set_ne (by decide)).2 e)), fun u => t15 ((up_set_ne (by decide)).1 u), fun u => n15 (fun e => u ((up_set_ne (by decide)).2 e)), fun _ => rfl, fun u => absurd (up_set_same (by omega)) u, fun u => (up_set_ne (by decide)).2 (d13 ((up_set_ne (by decide)).1 u)), fun u => (up_set_ne (by decide)).2 (d15 ((up_set_ne (by decide)).1 u)), fun _ => (up_set_ne (by decide)).2 (hdep10 rfl), fun u => (up_set_ne (by decide)).2 (e13 ((up_set_ne (by decide)).1 u)), fun u => (up_set_ne (by decide)).2 (e15 ((up_set_ne (by decide)).1 u)), fun _ => (up_set_ne (by decide)).2 (hdep11 rfl)⟩
  case done =>
    intro l a X hI hU
    obtain ⟨s3, s4, s5, s6, s7, s8, s9, s10, s11, s12, s13, s14, s15, s16, s17, s18, c0, c1, c2, rfl, hsix, hk, b0, b4, b8, f1, f5, f9, f12, f14, f16, l2, l6, l10, a3, a7, a11, t13, n13, t15, n15, t17, n17, d13, d15, d17, e13, e15, e17⟩ := hI
    have hU : ∀ i, i < 18 → Up l i := hU
    obtain rfl := t13 (hU 13 (by omega))
    obtain rfl := t15 (hU 15 (by omega))
    obtain rfl := t17 (hU 17 (by omega))
    obtain ⟨⟨xo, xn, xc, rfl⟩, hr3⟩ := a3 (hU 3 (by omega))
    obtain ⟨⟨yo, yn, yc, rfl⟩, hr7⟩ := a7 (hU 7 (by omega))
    obtain ⟨⟨zo, zn, zc, rfl⟩, hr11⟩ := a11 (hU 11 (by omega))
    obtain ⟨q0, q1, q2, q3, q4, q5, _⟩ := hsix
    have hs1 := six_of (hk.at hB1 (by omega))
    obtain ⟨j0, j1, j2, j3, j4, j5, jf⟩ := id hs1
    have g0 := jf 0
    have g1 := jf 1
    have g2 := jf 2
    have g3 := jf 3
    have g4 := jf 4
    have g5 := jf 5
    obtain ⟨Y, hY⟩ : ∃ Y, put6 X (w.heap.size + 1) (.slice xo xn xc) (.slice yo yn yc) (.slice zo zn zc) (zV m.gs) (zV m.us) (zV m.ds) = Y := ⟨_, rfl⟩
    have hs2 := put6_six hs1 (.slice xo xn xc) (.slice yo yn yc) (.slice zo zn zc) (zV m.gs) (zV m.us) (zV m.ds)
    have hk2 := put6_kept X (w.heap.size + 1) (.slice xo xn xc) (.slice yo yn yc) (.slice zo zn zc) (zV m.gs) (zV m.us) (zV m.ds)
    rw [hY] at hs2 hk2
    unfold put6 at hY
    obtain ⟨i0, i1, i2, i3, i4, i5, _⟩ := hs2
    have hsX := hk.size
    have hsY := hk2.size
    have hup : ∀ u L, Rk .i8 (fun b => W1.heap.size ≤ b ∧ b < X.heap.size) X u L → Rk .i8 (fun b => w.heap.size ≤ b ∧ b < Y.heap.size) Y u L := fun u L h => (h.kept hk2 (fun b hb e => by omega)).mono (fun b hb => ⟨by omega, by omega⟩)
    have HX : Hid (MidV (fun b => w.heap.size ≤ b ∧ b < Y.heap.size) Y (.agg #[.slice xo xn xc, .slice yo yn yc, .slice zo zn zc, zV m.gs, zV m.us, zV m.ds]) m ∧ Fresh w Y) :=
      ⟨⟨_, _, _, rfl, hup _ _ hr3, hup _ _ hr7, hup _ _ hr11, hi1, hi2, hi3⟩, hF1.trans ((hk.mono (S' := fun b => b = w.heap.size ∨ b = w.heap.size + 1) (fun _ _ e => .inl e)).trans hk2 (fun _ _ e => .inr e)) (fun i hi e => by omega)⟩
    clear b0 b4 b8 f1 f5 f9 f12 f14 f16 l2 l6 l10 a3 a7 a11 t13 t15 t17 n13 n15 n17 d13 d15 d17 e13 e15 e17
    clear hr3 hr7 hr11 hk hk2 hup hs1 hsX hsY hB1 hsix0 hsz hBW Hhgr Hhur Hhdr hF1 hW1 hU jf
    go_simp
    go_wp2
    exact bodyPost_ret (v := .agg #[.slice xo xn xc, .slice yo yn yc, .slice zo zn zc, zV m.gs, zV m.us, zV m.ds]) (by simp [results, Tryd.results15, go_sem, i0, i1, i2, i3, i4, i5]) rfl ⟨_, rfl, HX.out⟩
end Go.Proofs.YtbppahmcjifflaaDoor
