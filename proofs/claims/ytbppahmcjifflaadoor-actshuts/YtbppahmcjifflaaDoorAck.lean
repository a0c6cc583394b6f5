/-
  A middle as the document has it, the statements' own.
-/
import Derived.Test.YtbppahmcjifflaaDoorAcj
namespace Go.Proofs.YtbppahmcjifflaaDoor
open Go.RowKit Go.Lib Go.Maps

theorem Six.kept {S : Nat → Prop} {w w' : World} {B : Nat} {c0 c1 c2 c3 c4 c5 : Value} (h : Six w B c0 c1 c2 c3 c4 c5) (hk : Kept S w w') (hn : ¬ S B) : Six w' B c0 c1 c2 c3 c4 c5 := by
  obtain ⟨h0, h1, h2, h3, h4, h5, hf⟩ := h
  have hb : B < w.heap.size := by simpa using World.block_lt_of_cell? w _ h0
  have e : ∀ i, w'.cell? ⟨B, i, none⟩ = w.cell? ⟨B, i, none⟩ := fun i => hk.cell (p := ⟨B, i, none⟩) hb hn
  exact ⟨(e 0).trans h0, (e 1).trans h1, (e 2).trans h2, (e 3).trans h3, (e 4).trans h4, (e 5).trans h5, fun k => (hk.frozen (p := ⟨B, k, none⟩) hb hn).trans (hf k)⟩
/-- What holds in the course of it, whichever operations have come up. -/
def PlI (W1 : World) (B : Nat) (v gv uv dv : Value) (m : Mid) (l : Array Bool) (a : Act) (w : World) : Prop :=
  ∃ s3 s4 s5 s6 s7 s8 s9 s10 s11 s12 s13 s14 s15 s16 s17 s18 s19 s20 s21 : Value, a = { tmps := #[v, .pointer (some ⟨B, 0, none⟩), .pointer (some ⟨B + 1, 0, none⟩), s3, s4, s5, s6, s7, s8, s9, s10, s11, s12, s13, s14, s15, s16, s17, s18, s19, s20, s21], defers := [] } ∧ Six w B gv uv dv (zV m.gs) (zV m.us) (zV m.ds) ∧ Kept (fun b => b = B + 1) W1 w ∧
    (Up l 0 → ∃ z, s3 = .slice (some z) 0 0) ∧
    (Up l 4 → ∃ z, s7 = .slice (some z) 0 0) ∧
    (Up l 8 → ∃ z, s11 = .slice (some z) 0 0) ∧
    (Up l 1 → s4 = .pointer (some ⟨B, 0, none⟩)) ∧
    (Up l 5 → s8 = .pointer (some ⟨B, 1, none⟩)) ∧
    (Up l 9 → s12 = .pointer (some ⟨B, 2, none⟩)) ∧
    (Up l 12 → s15 = .pointer (some ⟨B, 3, none⟩)) ∧
    (Up l 14 → s17 = .pointer (some ⟨B, 4, none⟩)) ∧
    (Up l 16 → s19 = .pointer (some ⟨B, 5, none⟩)) ∧
    (Up l 2 → s5 = gv) ∧
    (Up l 6 → s9 = uv) ∧
    (Up l 10 → s13 = dv) ∧
    (Up l 13 → s16 = zV m.gs) ∧
    (Up l 15 → s18 = zV m.us) ∧
    (Up l 17 → s20 = zV m.ds) ∧
    (Up l 3 → OwnR W1 w s6 m.g) ∧
    (Up l 7 → OwnR W1 w s10 m.u) ∧
    (Up l 11 → OwnR W1 w s14 m.d) ∧
    (Up l 18 → s21 = .agg #[s6, s10, s14, zV m.gs, zV m.us, zV m.ds]) ∧
    (Up l 19 → Six w (B + 1) s6 s10 s14 (zV m.gs) (zV m.us) (zV m.ds)) ∧
    (¬ Up l 19 → Six w (B + 1) (.slice none 0 0) (.slice none 0 0) (.slice none 0 0) (zV 0) (zV 0) (zV 0)) ∧
    (Up l 18 → Up l 3) ∧
    (Up l 18 → Up l 7) ∧
    (Up l 18 → Up l 11) ∧
    (Up l 19 → Up l 18)

set_option maxHeartbeats 4000000 in
set_option maxRecDepth 100000 in
theorem plain_any (p : Nat → Prop) (v : Value) (m : Mid) (w : World) (hm : MidV p w v m) :
    Calls Tryd.prog 18 #[v] w fun e w' => ∃ v', e = .returned v' ∧ MidV (fun b => w.heap.size ≤ b ∧ b < w'.heap.size) w' v' m ∧ Fresh w w' := by
  obtain ⟨gv, uv, dv, rfl, hgr, hur, hdr, hi1, hi2, hi3⟩ := hm
  go_enter Tryd.func18, Tryd.ntmps18
  go_upto_region 1 with fail
  obtain ⟨W1, hW1⟩ : ∃ W1, (w.alloc (.cells #[gv, uv, dv, zV m.gs, zV m.us, zV m.ds] 36)).alloc (.cells #[.slice none 0 0, .slice none 0 0, .slice none 0 0, .int .i64 0, .int .i64 0, .int .i64 0] 43) = W1 := ⟨_, rfl⟩
  rw [hW1]
  have hF1 : Fresh w W1 := by rw [← hW1]; exact ((Kept.refl _ w).alloc _).alloc _
  have hsz : W1.heap.size = w.heap.size + 2 := by rw [← hW1, World.size_alloc, World.size_alloc]
  have hsix0 : Six W1 w.heap.size gv uv dv (zV m.gs) (zV m.us) (zV m.ds) := by
    have p1 : (w.alloc (.cells #[gv, uv, dv, zV m.gs, zV m.us, zV m.ds] 36)).heap[w.heap.size]? = some (.cells #[gv, uv, dv, zV m.gs, zV m.us, zV m.ds] 36 (0, 0)) := heap_alloc_new w _
    have : Six (w.alloc (.cells #[gv, uv, dv, zV m.gs, zV m.us, zV m.ds] 36)) w.heap.size gv uv dv (zV m.gs) (zV m.us) (zV m.ds) := by
      refine ⟨?_, ?_, ?_, ?_, ?_, ?_, fun k => ?_⟩
      iterate 6 (rw [Lib.cell_of_heap p1]; rfl)
      exact Lib.frozen_of_heap p1 k
    rw [← hW1]
    exact this.fresh ((Kept.refl _ _).alloc _)
  have hB1 : W1.heap[w.heap.size + 1]? = some (.cells #[.slice none 0 0, .slice none 0 0, .slice none 0 0, .int .i64 0, .int .i64 0, .int .i64 0] 43 (0, 0)) := by
    have := heap_alloc_new (w.alloc (.cells #[gv, uv, dv, zV m.gs, zV m.us, zV m.ds] 36)) (.cells #[.slice none 0 0, .slice none 0 0, .slice none 0 0, .int .i64 0, .int .i64 0, .int .i64 0] 43)
    rw [World.size_alloc, hW1] at this
    exact this
  have hBW : w.heap.size + 1 < W1.heap.size := by omega
  have hz0 := six_of hB1
  have Hhgr : ∀ X, Kept (fun b => b = w.heap.size + 1) W1 X → Rk .i8 (fun b => b < w.heap.size) X gv m.g := fun X hk => (hgr.low.fresh hF1).kept hk (fun b hb e => by omega)
  have Hhur : ∀ X, Kept (fun b => b = w.heap.size + 1) W1 X → Rk .i8 (fun b => b < w.heap.size) X uv m.u := fun X hk => (hur.low.fresh hF1).kept hk (fun b hb e => by omega)
  have Hhdr : ∀ X, Kept (fun b => b = w.heap.size + 1) W1 X → Rk .i8 (fun b => b < w.heap.size) X dv m.d := fun X hk => (hdr.low.fresh hF1).kept hk (fun b hb e => by omega)
  clear hgr hur hdr
  refine region_inv (by kernel_rfl) (PlI W1 w.heap.size (.agg #[gv, uv, dv, zV m.gs, zV m.us, zV m.ds]) gv uv dv m) (by kernel_rfl) ?step ?start ?done
  case start =>
    refine ⟨_, _, _, _, _, _, _, _, _, _, _, _, _, _, _, _, _, _, _, rfl, hsix0.fresh (Kept.refl _ _).drew, (Kept.refl _ _).drew, fun u => absurd u (not_up0 _ _), fun u => absurd u (not_up0 _ _), fun u => absurd u (not_up0 _ _), fun u => absurd u (not_up0 _ _), fun u => absurd u (not_up0 _ _), fun u => absurd u (not_up0 _ _), fun u => absurd u (not_up0 _ _), fun u => absurd u (not_up0 _ _), fun u => absurd u (not_up0 _ _), fun u => absurd u (not_up0 _ _), fun u => absurd u (not_up0 _ _), fun u => absurd u (not_up0 _ _), fun u => absurd u (not_up0 _ _), fun u => absurd u (not_up0 _ _), fun u => absurd u (not_up0 _ _), fun u => absurd u (not_up0 _ _), fun u => absurd u (not_up0 _ _), fun u => absurd u (not_up0 _ _), fun u => absurd u (not_up0 _ _), fun u => absurd u (not_up0 _ _), fun _ => hz0.fresh (Kept.refl _ _).drew, fun u => absurd u (not_up0 _ _), fun u => absurd u (not_up0 _ _), fun u => absurd u (not_up0 _ _), fun u => absurd u (not_up0 _ _)⟩
  case step =>
    intro l a X hl hI i o ho hlt hn hd K hK
    obtain ⟨s3, s4, s5, s6, s7, s8, s9, s10, s11, s12, s13, s14, s15, s16, s17, s18, s19, s20, s21, rfl, hsix, hk, b0, b4, b8, f1, f5, f9, f12, f14, f16, l2, l6, l10, l13, l15, l17, a3, a7, a11, t18, t19, n19, e3, e7, e11, e18⟩ := hI
    have hl : l.size = 20 := hl
    have hlt : i < 20 := hlt
    have hc : i = 0 ∨ i = 1 ∨ i = 2 ∨ i = 3 ∨ i = 4 ∨ i = 5 ∨ i = 6 ∨ i = 7 ∨ i = 8 ∨ i = 9 ∨ i = 10 ∨ i = 11 ∨ i = 12 ∨ i = 13 ∨ i = 14 ∨ i = 15 ∨ i = 16 ∨ i = 17 ∨ i = 18 ∨ i = 19 := by omega
    rcases hc with rfl | rfl | rfl | rfl | rfl | rfl | rfl | rfl | rfl | rfl | rfl | rfl | rfl | rfl | rfl | rfl | rfl | rfl | rfl | rfl
    · simp only [List.getElem?_toArray, List.getElem?_cons_zero, Option.some.injEq] at ho
      subst ho
      clear hd
      go_simp
      exact hK _ _ ⟨_, s4, s5, s6, s7, s8, s9, s10, s11, s12, s13, s14, s15, s16, s17, s18, s19, s20, s21, rfl, hsix.fresh ((Kept.refl _ X).alloc _), hk.alloc _, fun _ => ⟨_, rfl⟩, fun u => b4 ((up_set_ne (by decide)).1 u), fun u => b8 ((up_set_ne (by decide)).1 u), fun u => f1 ((up_set_ne (by decide)).1 u), fun u => f5 ((up_set_ne (by decide)).1 u), fun u => f9 ((up_set_ne (by decide)).1 u), fun u => f12 ((up_set_ne (by decide)).1 u), fun u => f14 ((up_set_ne (by decide)).1 u), fun u => f16 ((up_set_ne (by decide)).1 u), fun u => l2 ((up_set_ne (by decide)).1 u), fun u => l6 ((up_set_ne (by decide)).1 u), fun u => l10 ((up_set_ne (by decide)).1 u), fun u => l13 ((up_set_ne (by decide)).1 u), fun u => l15 ((up_set_ne (by decide)).1 u), fun u => l17 ((up_set_ne (by decide)).1 u), fun u => (a3 ((up_set_ne (by decide)).1 u)).kept (B := w.heap.size + 1) (((Kept.refl _ X).alloc _).mono (fun _ _ (e : False) => e.elim)) hBW, fun u => (a7 ((up_set_ne (by decide)).1 u)).kept (B := w.heap.size + 1) (((Kept.refl _ X).alloc _).mono (fun _ _ (e : False) => e.elim)) hBW, fun u => (a11 ((up_set_ne (by decide)).1 u)).kept (B := w.heap.size + 1) (((Kept.refl _ X).alloc _).mono (fun _ _ (e : False) => e.elim)) hBW, fun u => t18 ((up_set_ne (by decide)).1 u), fun u => (t19 ((up_set_ne (by decide)).1 u)).fresh ((Kept.refl _ X).alloc _), fun u => (n19 (fun e => u ((up_set_ne (by decide)).2 e))).fresh ((Kept.refl _ X).alloc _), fun u => (up_set_ne (by decide)).2 (e3 ((up_set_ne (by decide)).1 u)), fun u => (up_set_ne (by decide)).2 (e7 ((up_set_ne (by decide)).1 u)), fun u => (up_set_ne (by decide)).2 (e11 ((up_set_ne (by decide)).1 u)), fun u => (up_set_ne (by decide)).2 (e18 ((up_set_ne (by decide)).1 u))⟩
    · simp only [List.getElem?_toArray, List.getElem?_cons_succ, List.getElem?_cons_zero, Option.some.injEq] at ho
      subst ho
      clear hd
      go_simp
      exact hK _ _ ⟨s3, _, s5, s6, s7, s8, s9, s10, s11, s12, s13, s14, s15, s16, s17, s18, s19, s20, s21, rfl, hsix, hk, fun u => b0 ((up_set_ne (by decide)).1 u), fun u => b4 ((up_set_ne (by decide)).1 u), fun u => b8 ((up_set_ne (by decide)).1 u), fun _ => rfl, fun u => f5 ((up_set_ne (by decide)).1 u), fun u => f9 ((up_set_ne (by decide)).1 u), fun u => f12 ((up_set_ne (by decide)).1 u), fun u => f14 ((up_set_ne (by decide)).1 u), fun u => f16 ((up_set_ne (by decide)).1 u), fun u => l2 ((up_set_ne (by decide)).1 u), fun u => l6 ((up_set_ne (by decide)).1 u), fun u => l10 ((up_set_ne (by decide)).1 u), fun u => l13 ((up_set_ne (by decide)).1 u), fun u => l15 ((up_set_ne (by decide)).1 u), fun u => l17 ((up_set_ne (by decide)).1 u), fun u => a3 ((up_set_ne (by decide)).1 u), fun u => a7 ((up_set_ne (by decide)).1 u), fun u => a11 ((up_set_ne (by decide)).1 u), fun u => t18 ((up_set_ne (by decide)).1 u), fun u => t19 ((up_set_ne (by decide)).1 u), fun u => n19 (fun e => u ((up_set_ne (by decide)).2 e)), fun u => (up_set_ne (by decide)).2 (e3 ((up_set_ne (by decide)).1 u)), fun u => (up_set_ne (by decide)).2 (e7 ((up_set_ne (by decide)).1 u)), fun u => (up_set_ne (by decide)).2 (e11 ((up_set_ne (by decide)).1 u)), fun u => (up_set_ne (by decide)).2 (e18 ((up_set_ne (by decide)).1 u))⟩
    · simp only [List.getElem?_toArray, List.getElem?_cons_succ, List.getElem?_cons_zero, Option.some.injEq] at ho
      subst ho
      simp only [Array.mem_def, List.mem_cons, List.not_mem_nil, or_false, forall_eq] at hd
      obtain rfl := f1 (hd rfl)
      obtain ⟨q0, q1, q2, q3, q4, q5, qf⟩ := id hsix
      go_simp
      exact hK _ _ ⟨s3, _, _, s6, s7, s8, s9, s10, s11, s12, s13, s14, s15, s16, s17, s18, s19, s20, s21, rfl, hsix, hk, fun u => b0 ((up_set_ne (by decide)).1 u), fun u => b4 ((up_set_ne (by decide)).1 u), fun u => b8 ((up_set_ne (by decide)).1 u), fun u => f1 ((up_set_ne (by decide)).1 u), fun u => f5 ((up_set_ne (by decide)).1 u), fun u => f9 ((up_set_ne (by decide)).1 u), fun u => f12 ((up_set_ne (by decide)).1 u), fun u => f14 ((up_set_ne (by decide)).1 u), fun u => f16 ((up_set_ne (by decide)).1 u), fun _ => rfl, fun u => l6 ((up_set_ne (by decide)).1 u), fun u => l10 ((up_set_ne (by decide)).1 u), fun u => l13 ((up_set_ne (by decide)).1 u), fun u => l15 ((up_set_ne (by decide)).1 u), fun u => l17 ((up_set_ne (by decide)).1 u), fun u => a3 ((up_set_ne (by decide)).1 u), fun u => a7 ((up_set_ne (by decide)).1 u), fun u => a11 ((up_set_ne (by decide)).1 u), fun u => t18 ((up_set_ne (by decide)).1 u), fun u => t19 ((up_set_ne (by decide)).1 u), fun u => n19 (fun e => u ((up_set_ne (by decide)).2 e)), fun u => (up_set_ne (by decide)).2 (e3 ((up_set_ne (by decide)).1 u)), fun u => (up_set_ne (by decide)).2 (e7 ((up_set_ne (by decide)).1 u)), fun u => (up_set_ne (by decide)).2 (e11 ((up_set_ne (by decide)).1 u)), fun u => (up_set_ne (by decide)).2 (e18 ((up_set_ne (by decide)).1 u))⟩
    · simp only [List.getElem?_toArray, List.getElem?_cons_succ, List.getElem?_cons_zero, Option.some.injEq] at ho
      subst ho
      simp only [Array.mem_def, List.mem_cons, List.not_mem_nil, or_false, forall_eq_or_imp, forall_eq] at hd
      obtain ⟨z0, rfl⟩ := b0 (hd.1 rfl)
      obtain rfl := l2 (hd.2 rfl)
      refine step_twin rfl _ _ _ _ rfl _ _ rfl (by rfl) _ (twin0 ty8 _ X z0 _ _ _ (Hhgr X hk)) ?_
      rintro _ Y ⟨ta, tc, rfl, hFY, hRY⟩
      exact hK _ _ ⟨_, s4, _, _, s7, s8, s9, s10, s11, s12, s13, s14, s15, s16, s17, s18, s19, s20, s21, rfl, hsix.fresh (hFY), hk.trans hFY (fun _ _ (e : False) => e.elim), fun u => b0 ((up_set_ne (by decide)).1 u), fun u => b4 ((up_set_ne (by decide)).1 u), fun u => b8 ((up_set_ne (by decide)).1 u), fun u => f1 ((up_set_ne (by decide)).1 u), fun u => f5 ((up_set_ne (by decide)).1 u), fun u => f9 ((up_set_ne (by decide)).1 u), fun u => f12 ((up_set_ne (by decide)).1 u), fun u => f14 ((up_set_ne (by decide)).1 u), fun u => f16 ((up_set_ne (by decide)).1 u), fun u => l2 ((up_set_ne (by decide)).1 u), fun u => l6 ((up_set_ne (by decide)).1 u), fun u => l10 ((up_set_ne (by decide)).1 u), fun u => l13 ((up_set_ne (by decide)).1 u), fun u => l15 ((up_set_ne (by decide)).1 u), fun u => l17 ((up_set_ne (by decide)).1 u), fun _ => ⟨⟨_, _, _, rfl⟩, hRY.mono (fun b hb => ⟨Nat.le_trans hk.size hb.1, hb.2⟩)⟩, fun u => (a7 ((up_set_ne (by decide)).1 u)).kept (B := w.heap.size + 1) ((hFY).mono (fun _ _ (e : False) => e.elim)) hBW, fun u => (a11 ((up_set_ne (by decide)).1 u)).kept (B := w.heap.size + 1) ((hFY).mono (fun _ _ (e : False) => e.elim)) hBW, fun u => absurd (e3 ((up_set_ne (by decide)).1 u)) hn, fun u => absurd (e3 (e18 ((up_set_ne (by decide)).1 u))) hn, fun u => (n19 (fun e => u ((up_set_ne (by decide)).2 e))).fresh (hFY), fun _ => up_set_same (by omega), fun u => (up_set_ne (by decide)).2 (e7 ((up_set_ne (by decide)).1 u)), fun u => (up_set_ne (by decide)).2 (e11 ((up_set_ne (by decide)).1 u)), fun u => (up_set_ne (by decide)).2 (e18 ((up_set_ne (by decide)).1 u))⟩
    · simp only [List.getElem?_toArray, List.getElem?_cons_succ, List.getElem?_cons_zero, Option.some.injEq] at ho
      subst ho
      clear hd
      go_simp
      exact hK _ _ ⟨s3, s4, s5, s6, _, s8, s9, s10, s11, s12, s13, s14, s15, s16, s17, s18, s19, s20, s21, rfl, hsix.fresh ((Kept.refl _ X).alloc _), hk.alloc _, fun u => b0 ((up_set_ne (by decide)).1 u), fun _ => ⟨_, rfl⟩, fun u => b8 ((up_set_ne (by decide)).1 u), fun u => f1 ((up_set_ne (by decide)).1 u), fun u => f5 ((up_set_ne (by decide)).1 u), fun u => f9 ((up_set_ne (by decide)).1 u), fun u => f12 ((up_set_ne (by decide)).1 u), fun u => f14 ((up_set_ne (by decide)).1 u), fun u => f16 ((up_set_ne (by decide)).1 u), fun u => l2 ((up_set_ne (by decide)).1 u), fun u => l6 ((up_set_ne (by decide)).1 u), fun u => l10 ((up_set_ne (by decide)).1 u), fun u => l13 ((up_set_ne (by decide)).1 u), fun u => l15 ((up_set_ne (by decide)).1 u), fun u => l17 ((up_set_ne (by decide)).1 u), fun u => (a3 ((up_set_ne (by decide)).1 u)).kept (B := w.heap.size + 1) (((Kept.refl _ X).alloc _).mono (fun _ _ (e : False) => e.elim)) hBW, fun u => (a7 ((up_set_ne (by decide)).1 u)).kept (B := w.heap.size + 1) (((Kept.refl _ X).alloc _).mono (fun _ _ (e : False) => e.elim)) hBW, fun u => (a11 ((up_set_ne (by decide)).1 u)).kept (B := w.heap.size + 1) (((Kept.refl _ X).alloc _).mono (fun _ _ (e : False) => e.elim)) hBW, fun u => t18 ((up_set_ne (by decide)).1 u), fun u => (t19 ((up_set_ne (by decide)).1 u)).fresh ((Kept.refl _ X).alloc _), fun u => (n19 (fun e => u ((up_set_ne (by decide)).2 e))).fresh ((Kept.refl _ X).alloc _), fun u => (up_set_ne (by decide)).2 (e3 ((up_set_ne (by decide)).1 u)), fun u => (up_set_ne (by decide)).2 (e7 ((up_set_ne (by decide)).1 u)), fun u => (up_set_ne (by decide)).2 (e11 ((up_set_ne (by decide)).1 u)), fun u => (up_set_ne (by decide)).2 (e18 ((up_set_ne (by decide)).1 u))⟩
    · simp only [List.getElem?_toArray, List.getElem?_cons_succ, List.getElem?_cons_zero, Option.some.injEq] at ho
      subst ho
      clear hd
      go_simp
      exact hK _ _ ⟨s3, s4, s5, s6, s7, _, s9, s10, s11, s12, s13, s14, s15, s16, s17, s18, s19, s20, s21, rfl, hsix, hk, fun u => b0 ((up_set_ne (by decide)).1 u), fun u => b4 ((up_set_ne (by decide)).1 u), fun u => b8 ((up_set_ne (by decide)).1 u), fun u => f1 ((up_set_ne (by decide)).1 u), fun _ => rfl, fun u => f9 ((up_set_ne (by decide)).1 u), fun u => f12 ((up_set_ne (by decide)).1 u), fun u => f14 ((up_set_ne (by decide)).1 u), fun u => f16 ((up_set_ne (by decide)).1 u), fun u => l2 ((up_set_ne (by decide)).1 u), fun u => l6 ((up_set_ne (by decide)).1 u), fun u => l10 ((up_set_ne (by decide)).1 u), fun u => l13 ((up_set_ne (by decide)).1 u), fun u => l15 ((up_set_ne (by decide)).1 u), fun u => l17 ((up_set_ne (by decide)).1 u), fun u => a3 ((up_set_ne (by decide)).1 u), fun u => a7 ((up_set_ne (by decide)).1 u), fun u => a11 ((up_set_ne (by decide)).1 u), fun u => t18 ((up_set_ne (by decide)).1 u), fun u => t19 ((up_set_ne (by decide)).1 u), fun u => n19 (fun e => u ((up_set_ne (by decide)).2 e)), fun u => (up_set_ne (by decide)).2 (e3 ((up_set_ne (by decide)).1 u)), fun u => (up_set_ne (by decide)).2 (e7 ((up_set_ne (by decide)).1 u)), fun u => (up_set_ne (by decide)).2 (e11 ((up_set_ne (by decide)).1 u)), fun u => (up_set_ne (by decide)).2 (e18 ((up_set_ne (by decide)).1 u))⟩
    · simp only [List.getElem?_toArray, List.getElem?_cons_succ, List.getElem?_cons_zero, Option.some.injEq] at ho
      subst ho
      simp only [Array.mem_def, List.mem_cons, List.not_mem_nil, or_false, forall_eq] at hd
      obtain rfl := f5 (hd rfl)
      obtain ⟨q0, q1, q2, q3, q4, q5, qf⟩ := id hsix
      go_simp
      exact hK _ _ ⟨s3, s4, s5, s6, s7, _, _, s10, s11, s12, s13, s14, s15, s16, s17, s18, s19, s20, s21, rfl, hsix, hk, fun u => b0 ((up_set_ne (by decide)).1 u), fun u => b4 ((up_set_ne (by decide)).1 u), fun u => b8 ((up_set_ne (by decide)).1 u), fun u => f1 ((up_set_ne (by decide)).1 u), fun u => f5 ((up_set_ne (by decide)).1 u), fun u => f9 ((up_set_ne (by decide)).1 u), fun u => f12 ((up_set_ne (by decide)).1 u), fun u => f14 ((up_set_ne (by decide)).1 u), fun u => f16 ((up_set_ne (by decide)).1 u), fun u => l2 ((up_set_ne (by decide)).1 u), fun _ => rfl, fun u => l10 ((up_set_ne (by decide)).1 u), fun u => l13 ((up_set_ne (by decide)).1 u), fun u => l15 ((up_set_ne (by decide)).1 u), fun u => l17 ((up_set_ne (by decide)).1 u), fun u => a3 ((up_set_ne (by decide)).1 u), fun u => a7 ((up_set_ne (by decide)).1 u), fun u => a11 ((up_set_ne (by decide)).1 u), fun u => t18 ((up_set_ne (by decide)).1 u), fun u => t19 ((up_set_ne (by decide)).1 u), fun u => n19 (fun e => u ((up_set_ne (by decide)).2 e)), fun u => (up_set_ne (by decide)).2 (e3 ((up_set_ne (by decide)).1 u)), fun u => (up_set_ne (by decide)).2 (e7 ((up_set_ne (by decide)).1 u)), fun u => (up_set_ne (by decide)).2 (e11 ((up_set_ne (by decide)).1 u)), fun u => (up_set_ne (by decide)).2 (e18 ((up_set_ne (by decide)).1 u))⟩
    · simp only [List.getElem?_toArray, List.getElem?_cons_succ, List.getElem?_cons_zero, Option.some.injEq] at ho
      subst ho
      simp only [Array.mem_def, List.mem_cons, List.not_mem_nil, or_false, forall_eq_or_imp, forall_eq] at hd
      obtain ⟨z0, rfl⟩ := b4 (hd.1 rfl)
      obtain rfl := l6 (hd.2.1 rfl)
      refine step_twin rfl _ _ _ _ rfl _ _ rfl (by rfl) _ (twin0 ty8 _ X z0 _ _ _ (Hhur X hk)) ?_
      rintro _ Y ⟨ta, tc, rfl, hFY, hRY⟩
      exact hK _ _ ⟨s3, s4, s5, s6, _, s8, _, _, s11, s12, s13, s14, s15, s16, s17, s18, s19, s20, s21, rfl, hsix.fresh (hFY), hk.trans hFY (fun _ _ (e : False) => e.elim), fun u => b0 ((up_set_ne (by decide)).1 u), fun u => b4 ((up_set_ne (by decide)).1 u), fun u => b8 ((up_set_ne (by decide)).1 u), fun u => f1 ((up_set_ne (by decide)).1 u), fun u => f5 ((up_set_ne (by decide)).1 u), fun u => f9 ((up_set_ne (by decide)).1 u), fun u => f12 ((up_set_ne (by decide)).1 u), fun u => f14 ((up_set_ne (by decide)).1 u), fun u => f16 ((up_set_ne (by decide)).1 u), fun u => l2 ((up_set_ne (by decide)).1 u), fun u => l6 ((up_set_ne (by decide)).1 u), fun u => l10 ((up_set_ne (by decide)).1 u), fun u => l13 ((up_set_ne (by decide)).1 u), fun u => l15 ((up_set_ne (by decide)).1 u), fun u => l17 ((up_set_ne (by decide)).1 u), fun u => (a3 ((up_set_ne (by decide)).1 u)).kept (B := w.heap.size + 1) ((hFY).mono (fun _ _ (e : False) => e.elim)) hBW, fun _ => ⟨⟨_, _, _, rfl⟩, hRY.mono (fun b hb => ⟨Nat.le_trans hk.size hb.1, hb.2⟩)⟩, fun u => (a11 ((up_set_ne (by decide)).1 u)).kept (B := w.heap.size + 1) ((hFY).mono (fun _ _ (e : False) => e.elim)) hBW, fun u => absurd (e7 ((up_set_ne (by decide)).1 u)) hn, fun u => absurd (e7 (e18 ((up_set_ne (by decide)).1 u))) hn, fun u => (n19 (fun e => u ((up_set_ne (by decide)).2 e))).fresh (hFY), fun u => (up_set_ne (by decide)).2 (e3 ((up_set_ne (by decide)).1 u)), fun _ => up_set_same (by omega), fun u => (up_set_ne (by decide)).2 (e11 ((up_set_ne (by decide)).1 u)), fun u => (up_set_ne (by decide)).2 (e18 ((up_set_ne (by decide)).1 u))⟩
    · simp only [List.getElem?_toArray, List.getElem?_cons_succ, List.getElem?_cons_zero, Option.some.injEq] at ho
      subst ho
      clear hd
      go_simp
      exact hK _ _ ⟨s3, s4, s5, s6, s7, s8, s9, s10, _, s12, s13, s14, s15, s16, s17, s18, s19, s20, s21, rfl, hsix.fresh ((Kept.refl _ X).alloc _), hk.alloc _, fun u => b0 ((up_set_ne (by decide)).1 u), fun u => b4 ((up_set_ne (by decide)).1 u), fun _ => ⟨_, rfl⟩, fun u => f1 ((up_set_ne (by decide)).1 u), fun u => f5 ((up_set_ne (by decide)).1 u), fun u => f9 ((up_set_ne (by decide)).1 u), fun u => f12 ((up_set_ne (by decide)).1 u), fun u => f14 ((up_set_ne (by decide)).1 u), fun u => f16 ((up_set_ne (by decide)).1 u), fun u => l2 ((up_set_ne (by decide)).1 u), fun u => l6 ((up_set_ne (by decide)).1 u), fun u => l10 ((up_set_ne (by decide)).1 u), fun u => l13 ((up_set_ne (by decide)).1 u), fun u => l15 ((up_set_ne (by decide)).1 u), fun u => l17 ((up_set_ne (by decide)).1 u), fun u => (a3 ((up_set_ne (by decide)).1 u)).kept (B := w.heap.size + 1) (((Kept.refl _ X).alloc _).mono (fun _ _ (e : False) => e.elim)) hBW, fun u => (a7 ((up_set_ne (by decide)).1 u)).kept (B := w.heap.size + 1) (((Kept.refl _ X).alloc _).mono (fun _ _ (e : False) => e.elim)) hBW, fun u => (a11 ((up_set_ne (by decide)).1 u)).kept (B := w.heap.size + 1) (((Kept.refl _ X).alloc _).mono (fun _ _ (e : False) => e.elim)) hBW, fun u => t18 ((up_set_ne (by decide)).1 u), fun u => (t19 ((up_set_ne (by decide)).1 u)).fresh ((Kept.refl _ X).alloc _), fun u => (n19 (fun e => u ((up_set_ne (by decide)).2 e))).fresh ((Kept.refl _ X).alloc _), fun u => (up_set_ne (by decide)).2 (e3 ((up_set_ne (by decide)).1 u)), fun u => (up_set_ne (by decide)).2 (e7 ((up_set_ne (by decide)).1 u)), fun u => (up_set_ne (by decide)).2 (e11 ((up_set_ne (by decide)).1 u)), fun u => (up_set_ne (by decide)).2 (e18 ((up_set_ne (by decide)).1 u))⟩
    · simp only [List.getElem?_toArray, List.getElem?_cons_succ, List.getElem?_cons_zero, Option.some.injEq] at ho
      subst ho
      clear hd
      go_simp
      exact hK _ _ ⟨s3, s4, s5, s6, s7, s8, s9, s10, s11, _, s13, s14, s15, s16, s17, s18, s19, s20, s21, rfl, hsix, hk, fun u => b0 ((up_set_ne (by decide)).1 u), fun u => b4 ((up_set_ne (by decide)).1 u), fun u => b8 ((up_set_ne (by decide)).1 u), fun u => f1 ((up_set_ne (by decide)).1 u), fun u => f5 ((up_set_ne (by decide)).1 u), fun _ => rfl, fun u => f12 ((up_set_ne (by decide)).1 u), fun u => f14 ((up_set_ne (by decide)).1 u), fun u => f16 ((up_set_ne (by decide)).1 u), fun u => l2 ((up_set_ne (by decide)).1 u), fun u => l6 ((up_set_ne (by decide)).1 u), fun u => l10 ((up_set_ne (by decide)).1 u), fun u => l13 ((up_set_ne (by decide)).1 u), fun u => l15 ((up_set_ne (by decide)).1 u), fun u => l17 ((up_set_ne (by decide)).1 u), fun u => a3 ((up_set_ne (by decide)).1 u), fun u => a7 ((up_set_ne (by decide)).1 u), fun u => a11 ((up_set_ne (by decide)).1 u), fun u => t18 ((up_set_ne (by decide)).1 u), fun u => t19 ((up_set_ne (by decide)).1 u), fun u => n19 (fun e => u ((up_set_ne (by decide)).2 e)), fun u => (up_set_ne (by decide)).2 (e3 ((up_set_ne (by decide)).1 u)), fun u => (up_set_ne (by decide)).2 (e7 ((up_set_ne (by decide)).1 u)), fun u => (up_set_ne (by decide)).2 (e11 ((up_set_ne (by decide)).1 u)), fun u => (up_set_ne (by decide)).2 (e18 ((up_set_ne (by decide)).1 u))⟩
    · simp only [List.getElem?_toArray, List.getElem?_cons_succ, List.getElem?_cons_zero, Option.some.injEq] at ho
      subst ho
      simp only [Array.mem_def, List.mem_cons, List.not_mem_nil, or_false, forall_eq] at hd
      obtain rfl := f9 (hd rfl)
      obtain ⟨q0, q1, q2, q3, q4, q5, qf⟩ := id hsix
      go_simp
      exact hK _ _ ⟨s3, s4, s5, s6, s7, s8, s9, s10, s11, _, _, s14, s15, s16, s17, s18, s19, s20, s21, rfl, hsix, hk, fun u => b0 ((up_set_ne (by decide)).1 u), fun u => b4 ((up_set_ne (by decide)).1 u), fun u => b8 ((up_set_ne (by decide)).1 u), fun u => f1 ((up_set_ne (by decide)).1 u), fun u => f5 ((up_set_ne (by decide)).1 u), fun u => f9 ((up_set_ne (by decide)).1 u), fun u => f12 ((up_set_ne (by decide)).1 u), fun u => f14 ((up_set_ne (by decide)).1 u), fun u => f16 ((up_set_ne (by decide)).1 u), fun u => l2 ((up_set_ne (by decide)).1 u), fun u => l6 ((up_set_ne (by decide)).1 u), fun _ => rfl, fun u => l13 ((up_set_ne (by decide)).1 u), fun u => l15 ((up_set_ne (by decide)).1 u), fun u => l17 ((up_set_ne (by decide)).1 u), fun u => a3 ((up_set_ne (by decide)).1 u), fun u => a7 ((up_set_ne (by decide)).1 u), fun u => a11 ((up_set_ne (by decide)).1 u), fun u => t18 ((up_set_ne (by decide)).1 u), fun u => t19 ((up_set_ne (by decide)).1 u), fun u => n19 (fun e => u ((up_set_ne (by decide)).2 e)), fun u => (up_set_ne (by decide)).2 (e3 ((up_set_ne (by decide)).1 u)), fun u => (up_set_ne (by decide)).2 (e7 ((up_set_ne (by decide)).1 u)), fun u => (up_set_ne (by decide)).2 (e11 ((up_set_ne (by decide)).1 u)), fun u => (up_set_ne (by decide)).2 (e18 ((up_set_ne (by decide)).1 u))⟩
    · simp only [List.getElem?_toArray, List.getElem?_cons_succ, List.getElem?_cons_zero, Option.some.injEq] at ho
      subst ho
      simp only [Array.mem_def, List.mem_cons, List.not_mem_nil, or_false, forall_eq_or_imp, forall_eq] at hd
      obtain ⟨z0, rfl⟩ := b8 (hd.1 rfl)
      obtain rfl := l10 (hd.2.1 rfl)
      refine step_twin rfl _ _ _ _ rfl _ _ rfl (by rfl) _ (twin0 ty8 _ X z0 _ _ _ (Hhdr X hk)) ?_
      rintro _ Y ⟨ta, tc, rfl, hFY, hRY⟩
      exact hK _ _ ⟨s3, s4, s5, s6, s7, s8, s9, s10, _, s12, _, _, s15, s16, s17, s18, s19, s20, s21, rfl, hsix.fresh (hFY), hk.trans hFY (fun _ _ (e : False) => e.elim), fun u => b0 ((up_set_ne (by decide)).1 u), fun u => b4 ((up_set_ne (by decide)).1 u), fun u => b8 ((up_set_ne (by decide)).1 u), fun u => f1 ((up_set_ne (by decide)).1 u), fun u => f5 ((up_set_ne (by decide)).1 u), fun u => f9 ((up_set_ne (by decide)).1 u), fun u => f12 ((up_set_ne (by decide)).1 u), fun u => f14 ((up_set_ne (by decide)).1 u), fun u => f16 ((up_set_ne (by decide)).1 u), fun u => l2 ((up_set_ne (by decide)).1 u), fun u => l6 ((up_set_ne (by decide)).1 u), fun u => l10 ((up_set_ne (by decide)).1 u), fun u => l13 ((up_set_ne (by decide)).1 u), fun u => l15 ((up_set_ne (by decide)).1 u), fun u => l17 ((up_set_ne (by decide)).1 u), fun u => (a3 ((up_set_ne (by decide)).1 u)).kept (B := w.heap.size + 1) ((hFY).mono (fun _ _ (e : False) => e.elim)) hBW, fun u => (a7 ((up_set_ne (by decide)).1 u)).kept (B := w.heap.size + 1) ((hFY).mono (fun _ _ (e : False) => e.elim)) hBW, fun _ => ⟨⟨_, _, _, rfl⟩, hRY.mono (fun b hb => ⟨Nat.le_trans hk.size hb.1, hb.2⟩)⟩, fun u => absurd (e11 ((up_set_ne (by decide)).1 u)) hn, fun u => absurd (e11 (e18 ((up_set_ne (by decide)).1 u))) hn, fun u => (n19 (fun e => u ((up_set_ne (by decide)).2 e))).fresh (hFY), fun u => (up_set_ne (by decide)).2 (e3 ((up_set_ne (by decide)).1 u)), fun u => (up_set_ne (by decide)).2 (e7 ((up_set_ne (by decide)).1 u)), fun _ => up_set_same (by omega), fun u => (up_set_ne (by decide)).2 (e18 ((up_set_ne (by decide)).1 u))⟩
    · simp only [List.getElem?_toArray, List.getElem?_cons_succ, List.getElem?_cons_zero, Option.some.injEq] at ho
      subst ho
      clear hd
      go_simp
      exact hK _ _ ⟨s3, s4, s5, s6, s7, s8, s9, s10, s11, s12, s13, s14, _, s16, s17, s18, s19, s20, s21, rfl, hsix, hk, fun u => b0 ((up_set_ne (by decide)).1 u), fun u => b4 ((up_set_ne (by decide)).1 u), fun u => b8 ((up_set_ne (by decide)).1 u), fun u => f1 ((up_set_ne (by decide)).1 u), fun u => f5 ((up_set_ne (by decide)).1 u), fun u => f9 ((up_set_ne (by decide)).1 u), fun _ => rfl, fun u => f14 ((up_set_ne (by decide)).1 u), fun u => f16 ((up_set_ne (by decide)).1 u), fun u => l2 ((up_set_ne (by decide)).1 u), fun u => l6 ((up_set_ne (by decide)).1 u), fun u => l10 ((up_set_ne (by decide)).1 u), fun u => l13 ((up_set_ne (by decide)).1 u), fun u => l15 ((up_set_ne (by decide)).1 u), fun u => l17 ((up_set_ne (by decide)).1 u), fun u => a3 ((up_set_ne (by decide)).1 u), fun u => a7 ((up_set_ne (by decide)).1 u), fun u => a11 ((up_set_ne (by decide)).1 u), fun u => t18 ((up_set_ne (by decide)).1 u), fun u => t19 ((up_set_ne (by decide)).1 u), fun u => n19 (fun e => u ((up_set_ne (by decide)).2 e)), fun u => (up_set_ne (by decide)).2 (e3 ((up_set_ne (by decide)).1 u)), fun u => (up_set_ne (by decide)).2 (e7 ((up_set_ne (by decide)).1 u)), fun u => (up_set_ne (by decide)).2 (e11 ((up_set_ne (by decide)).1 u)), fun u => (up_set_ne (by decide)).2 (e18 ((up_set_ne (by decide)).1 u))⟩
    · simp only [List.getElem?_toArray, List.getElem?_cons_succ, List.getElem?_cons_zero, Option.some.injEq] at ho
      subst ho
      simp only [Array.mem_def, List.mem_cons, List.not_mem_nil, or_false, forall_eq] at hd
      obtain rfl := f12 (hd rfl)
      obtain ⟨q0, q1, q2, q3, q4, q5, qf⟩ := id hsix
      go_simp
      exact hK _ _ ⟨s3, s4, s5, s6, s7, s8, s9, s10, s11, s12, s13, s14, _, _, s17, s18, s19, s20, s21, rfl, hsix, hk, fun u => b0 ((up_set_ne (by decide)).1 u), fun u => b4 ((up_set_ne (by decide)).1 u), fun u => b8 ((up_set_ne (by decide)).1 u), fun u => f1 ((up_set_ne (by decide)).1 u), fun u => f5 ((up_set_ne (by decide)).1 u), fun u => f9 ((up_set_ne (by decide)).1 u), fun u => f12 ((up_set_ne (by decide)).1 u), fun u => f14 ((up_set_ne (by decide)).1 u), fun u => f16 ((up_set_ne (by decide)).1 u), fun u => l2 ((up_set_ne (by decide)).1 u), fun u => l6 ((up_set_ne (by decide)).1 u), fun u => l10 ((up_set_ne (by decide)).1 u), fun _ => rfl, fun u => l15 ((up_set_ne (by decide)).1 u), fun u => l17 ((up_set_ne (by decide)).1 u), fun u => a3 ((up_set_ne (by decide)).1 u), fun u => a7 ((up_set_ne (by decide)).1 u), fun u => a11 ((up_set_ne (by decide)).1 u), fun u => t18 ((up_set_ne (by decide)).1 u), fun u => t19 ((up_set_ne (by decide)).1 u), fun u => n19 (fun e => u ((up_set_ne (by decide)).2 e)), fun u => (up_set_ne (by decide)).2 (e3 ((up_set_ne (by decide)).1 u)), fun u => (up_set_ne (by decide)).2 (e7 ((up_set_ne (by decide)).1 u)), fun u => (up_set_ne (by decide)).2 (e11 ((up_set_ne (by decide)).1 u)), fun u => (up_set_ne (by decide)).2 (e18 ((up_set_ne (by decide)).1 u))⟩
    · simp only [List.getElem?_toArray, List.getElem?_cons_succ, List.getElem?_cons_zero, Option.some.injEq] at ho
      subst ho
      clear hd
      go_simp
      exact hK _ _ ⟨s3, s4, s5, s6, s7, s8, s9, s10, s11, s12, s13, s14, s15, s16, _, s18, s19, s20, s21, rfl, hsix, hk, fun u => b0 ((up_set_ne (by decide)).1 u), fun u => b4 ((up_set_ne (by decide)).1 u), fun u => b8 ((up_set_ne (by decide)).1 u), fun u => f1 ((up_set_ne (by decide)).1 u), fun u => f5 ((up_set_ne (by decide)).1 u), fun u => f9 ((up_set_ne (by decide)).1 u), fun u => f12 ((up_set_ne (by decide)).1 u), fun _ => rfl, fun u => f16 ((up_set_ne (by decide)).1 u), fun u => l2 ((up_set_ne (by decide)).1 u), fun u => l6 ((up_set_ne (by decide)).1 u), fun u => l10 ((up_set_ne (by decide)).1 u), fun u => l13 ((up_set_ne (by decide)).1 u), fun u => l15 ((up_set_ne (by decide)).1 u), fun u => l17 ((up_set_ne (by decide)).1 u), fun u => a3 ((up_set_ne (by decide)).1 u), fun u => a7 ((up_set_ne (by decide)).1 u), fun u => a11 ((up_set_ne (by decide)).1 u), fun u => t18 ((up_set_ne (by decide)).1 u), fun u => t19 ((up_set_ne (by decide)).1 u), fun u => n19 (fun e => u ((up_set_ne (by decide)).2 e)), fun u => (up_set_ne (by decide)).2 (e3 ((up_set_ne (by decide)).1 u)), fun u => (up_set_ne (by decide)).2 (e7 ((up_set_ne (by decide)).1 u)), fun u => (up_set_ne (by decide)).2 (e11 ((up_set_ne (by decide)).1 u)), fun u => (up_set_ne (by decide)).2 (e18 ((up_set_ne (by decide)).1 u))⟩
    · simp only [List.getElem?_toArray, List.getElem?_cons_succ, List.getElem?_cons_zero, Option.some.injEq] at ho
      subst ho
      simp only [Array.mem_def, List.mem_cons, List.not_mem_nil, or_false, forall_eq] at hd
      obtain rfl := f14 (hd rfl)
      obtain ⟨q0, q1, q2, q3, q4, q5, qf⟩ := id hsix
      go_simp
      exact hK _ _ ⟨s3, s4, s5, s6, s7, s8, s9, s10, s11, s12, s13, s14, s15, s16, _, _, s19, s20, s21, rfl, hsix, hk, fun u => b0 ((up_set_ne (by decide)).1 u), fun u => b4 ((up_set_ne (by decide)).1 u), fun u => b8 ((up_set_ne (by decide)).1 u), fun u => f1 ((up_set_ne (by decide)).1 u), fun u => f5 ((up_set_ne (by decide)).1 u), fun u => f9 ((up_set_ne (by decide)).1 u), fun u => f12 ((up_set_ne (by decide)).1 u), fun u => f14 ((up_set_ne (by decide)).1 u), fun u => f16 ((up_set_ne (by decide)).1 u), fun u => l2 ((up_set_ne (by decide)).1 u), fun u => l6 ((up_set_ne (by decide)).1 u), fun u => l10 ((up_set_ne (by decide)).1 u), fun u => l13 ((up_set_ne (by decide)).1 u), fun _ => rfl, fun u => l17 ((up_set_ne (by decide)).1 u), fun u => a3 ((up_set_ne (by decide)).1 u), fun u => a7 ((up_set_ne (by decide)).1 u), fun u => a11 ((up_set_ne (by decide)).1 u), fun u => t18 ((up_set_ne (by decide)).1 u), fun u => t19 ((up_set_ne (by decide)).1 u), fun u => n19 (fun e => u ((up_set_ne (by decide)).2 e)), fun u => (up_set_ne (by decide)).2 (e3 ((up_set_ne (by decide)).1 u)), fun u => (up_set_ne (by decide)).2 (e7 ((up_set_ne (by decide)).1 u)), fun u => (up_set_ne (by decide)).2 (e11 ((up_set_ne (by decide)).1 u)), fun u => (up_set_ne (by decide)).2 (e18 ((up_set_ne (by decide)).1 u))⟩
    · simp only [List.getElem?_toArray, List.getElem?_cons_succ, List.getElem?_cons_zero, Option.some.injEq] at ho
      subst ho
      clear hd
      go_simp
      exact hK _ _ ⟨s3, s4, s5, s6, s7, s8, s9, s10, s11, s12, s13, s14, s15, s16, s17, s18, _, s20, s21, rfl, hsix, hk, fun u => b0 ((up_set_ne (by decide)).1 u), fun u => b4 ((up_set_ne (by decide)).1 u), fun u => b8 ((up_set_ne (by decide)).1 u), fun u => f1 ((up_set_ne (by decide)).1 u), fun u => f5 ((up_set_ne (by decide)).1 u), fun u => f9 ((up_set_ne (by decide)).1 u), fun u => f12 ((up_set_ne (by decide)).1 u), fun u => f14 ((up_set_ne (by decide)).1 u), fun _ => rfl, fun u => l2 ((up_set_ne (by decide)).1 u), fun u => l6 ((up_set_ne (by decide)).1 u), fun u => l10 ((up_set_ne (by decide)).1 u), fun u => l13 ((up_set_ne (by decide)).1 u), fun u => l15 ((up_set_ne (by decide)).1 u), fun u => l17 ((up_set_ne (by decide)).1 u), fun u => a3 ((up_set_ne (by decide)).1 u), fun u => a7 ((up_set_ne (by decide)).1 u), fun u => a11 ((up_set_ne (by decide)).1 u), fun u => t18 ((up_set_ne (by decide)).1 u), fun u => t19 ((up_set_ne (by decide)).1 u), fun u => n19 (fun e => u ((up_set_ne (by decide)).2 e)), fun u => (up_set_ne (by decide)).2 (e3 ((up_set_ne (by decide)).1 u)), fun u => (up_set_ne (by decide)).2 (e7 ((up_set_ne (by decide)).1 u)), fun u => (up_set_ne (by decide)).2 (e11 ((up_set_ne (by decide)).1 u)), fun u => (up_set_ne (by decide)).2 (e18 ((up_set_ne (by decide)).1 u))⟩
    · simp only [List.getElem?_toArray, List.getElem?_cons_succ, List.getElem?_cons_zero, Option.some.injEq] at ho
      subst ho
      simp only [Array.mem_def, List.mem_cons, List.not_mem_nil, or_false, forall_eq] at hd
      obtain rfl := f16 (hd rfl)
      obtain ⟨q0, q1, q2, q3, q4, q5, qf⟩ := id hsix
      go_simp
      exact hK _ _ ⟨s3, s4, s5, s6, s7, s8, s9, s10, s11, s12, s13, s14, s15, s16, s17, s18, _, _, s21, rfl, hsix, hk, fun u => b0 ((up_set_ne (by decide)).1 u), fun u => b4 ((up_set_ne (by decide)).1 u), fun u => b8 ((up_set_ne (by decide)).1 u), fun u => f1 ((up_set_ne (by decide)).1 u), fun u => f5 ((up_set_ne (by decide)).1 u), fun u => f9 ((up_set_ne (by decide)).1 u), fun u => f12 ((up_set_ne (by decide)).1 u), fun u => f14 ((up_set_ne (by decide)).1 u), fun u => f16 ((up_set_ne (by decide)).1 u), fun u => l2 ((up_set_ne (by decide)).1 u), fun u => l6 ((up_set_ne (by decide)).1 u), fun u => l10 ((up_set_ne (by decide)).1 u), fun u => l13 ((up_set_ne (by decide)).1 u), fun u => l15 ((up_set_ne (by decide)).1 u), fun _ => rfl, fun u => a3 ((up_set_ne (by decide)).1 u), fun u => a7 ((up_set_ne (by decide)).1 u), fun u => a11 ((up_set_ne (by decide)).1 u), fun u => t18 ((up_set_ne (by decide)).1 u), fun u => t19 ((up_set_ne (by decide)).1 u), fun u => n19 (fun e => u ((up_set_ne (by decide)).2 e)), fun u => (up_set_ne (by decide)).2 (e3 ((up_set_ne (by decide)).1 u)), fun u => (up_set_ne (by decide)).2 (e7 ((up_set_ne (by decide)).1 u)), fun u => (up_set_ne (by decide)).2 (e11 ((up_set_ne (by decide)).1 u)), fun u => (up_set_ne (by decide)).2 (e18 ((up_set_ne (by decide)).1 u))⟩
    · simp only [List.getElem?_toArray, List.getElem?_cons_succ, List.getElem?_cons_zero, Option.some.injEq] at ho
      subst ho
      simp only [Array.mem_def, List.mem_cons, List.not_mem_nil, or_false, forall_eq_or_imp, forall_eq] at hd
      obtain ⟨⟨xo, xn, xc, rfl⟩, _⟩ := id (a3 (hd.1 rfl))
      obtain ⟨⟨yo, yn, yc, rfl⟩, _⟩ := id (a7 (hd.2.1 rfl))
      obtain ⟨⟨zo, zn, zc, rfl⟩, _⟩ := id (a11 (hd.2.2.1 rfl))
      obtain rfl := l13 (hd.2.2.2.1 rfl)
      obtain rfl := l15 (hd.2.2.2.2.1 rfl)
      obtain rfl := l17 (hd.2.2.2.2.2 rfl)
      go_simp
      exact hK _ _ ⟨s3, s4, s5, _, s7, s8, s9, _, s11, s12, s13, _, s15, _, s17, _, s19, _, _, rfl, hsix, hk, fun u => b0 ((up_set_ne (by decide)).1 u), fun u => b4 ((up_set_ne (by decide)).1 u), fun u => b8 ((up_set_ne (by decide)).1 u), fun u => f1 ((up_set_ne (by decide)).1 u), fun u => f5 ((up_set_ne (by decide)).1 u), fun u => f9 ((up_set_ne (by decide)).1 u), fun u => f12 ((up_set_ne (by decide)).1 u), fun u => f14 ((up_set_ne (by decide)).1 u), fun u => f16 ((up_set_ne (by decide)).1 u), fun u => l2 ((up_set_ne (by decide)).1 u), fun u => l6 ((up_set_ne (by decide)).1 u), fun u => l10 ((up_set_ne (by decide)).1 u), fun u => l13 ((up_set_ne (by decide)).1 u), fun u => l15 ((up_set_ne (by decide)).1 u), fun u => l17 ((up_set_ne (by decide)).1 u), fun u => a3 ((up_set_ne (by decide)).1 u), fun u => a7 ((up_set_ne (by decide)).1 u), fun u => a11 ((up_set_ne (by decide)).1 u), fun _ => rfl, fun u => t19 ((up_set_ne (by decide)).1 u), fun u => n19 (fun e => u ((up_set_ne (by decide)).2 e)), fun _ => (up_set_ne (by decide)).2 (hd.1 rfl), fun _ => (up_set_ne (by decide)).2 (hd.2.1 rfl), fun _ => (up_set_ne (by decide)).2 (hd.2.2.1 rfl), fun _ => up_set_same (by omega)⟩
    · simp only [List.getElem?_toArray, List.getElem?_cons_succ, List.getElem?_cons_zero, Option.some.injEq] at ho
      subst ho
      simp only [Array.mem_def, List.mem_cons, List.not_mem_nil, or_false, forall_eq_or_imp, forall_eq] at hd
      have h18 := hd.1 rfl
      obtain rfl := t18 h18
      obtain ⟨⟨xo, xn, xc, rfl⟩, _⟩ := id (a3 (e3 h18))
      obtain ⟨⟨yo, yn, yc, rfl⟩, _⟩ := id (a7 (e7 h18))
      obtain ⟨⟨zo, zn, zc, rfl⟩, _⟩ := id (a11 (e11 h18))
      have hs1 := n19 hn
      obtain ⟨j0, j1, j2, j3, j4, j5, jf⟩ := id hs1
      have g0 := jf 0
      have g1 := jf 1
      have g2 := jf 2
      have g3 := jf 3
      have g4 := jf 4
      have g5 := jf 5
      have hk2 := put6_kept X (w.heap.size + 1) (.slice xo xn xc) (.slice yo yn yc) (.slice zo zn zc) (zV m.gs) (zV m.us) (zV m.ds)
      have hs2 := put6_six hs1 (.slice xo xn xc) (.slice yo yn yc) (.slice zo zn zc) (zV m.gs) (zV m.us) (zV m.ds)
      go_simp
      exact hK _ _ ⟨s3, s4, s5, _, s7, s8, s9, _, s11, s12, s13, _, s15, s16, s17, s18, s19, s20, _, rfl, hsix.kept hk2 (by omega), hk.trans hk2 (fun _ _ e => e), fun u => b0 ((up_set_ne (by decide)).1 u), fun u => b4 ((up_set_ne (by decide)).1 u), fun u => b8 ((up_set_ne (by decide)).1 u), fun u => f1 ((up_set_ne (by decide)).1 u), fun u => f5 ((up_set_ne (by decide)).1 u), fun u => f9 ((up_set_ne (by decide)).1 u), fun u => f12 ((up_set_ne (by decide)).1 u), fun u => f14 ((up_set_ne (by decide)).1 u), fun u => f16 ((up_set_ne (by decide)).1 u), fun u => l2 ((up_set_ne (by decide)).1 u), fun u => l6 ((up_set_ne (by decide)).1 u), fun u => l10 ((up_set_ne (by decide)).1 u), fun u => l13 ((up_set_ne (by decide)).1 u), fun u => l15 ((up_set_ne (by decide)).1 u), fun u => l17 ((up_set_ne (by decide)).1 u), fun u => (a3 ((up_set_ne (by decide)).1 u)).kept hk2 hBW, fun u => (a7 ((up_set_ne (by decide)).1 u)).kept hk2 hBW, fun u => (a11 ((up_set_ne (by decide)).1 u)).kept hk2 hBW, fun u => t18 ((up_set_ne (by decide)).1 u), fun _ => hs2, fun u => absurd (up_set_same (by omega)) u, fun u => (up_set_ne (by decide)).2 (e3 ((up_set_ne (by decide)).1 u)), fun u => (up_set_ne (by decide)).2 (e7 ((up_set_ne (by decide)).1 u)), fun u => (up_set_ne (by decide)).2 (e11 ((up_set_ne (by decide)).1 u)), fun _ => (up_set_ne (by decide)).2 (h18)⟩
  case done =>
    intro l a X hI hU
    obtain ⟨s3, s4, s5, s6, s7, s8, s9, s10, s11, s12, s13, s14, s15, s16, s17, s18, s19, s20, s21, rfl, hsix, hk, b0, b4, b8, f1, f5, f9, f12, f14, f16, l2, l6, l10, l13, l15, l17, a3, a7, a11, t18, t19, n19, e3, e7, e11, e18⟩ := hI
    have hU : ∀ i, i < 20 → Up l i := hU
    obtain ⟨i0, i1, i2, i3, i4, i5, _⟩ := t19 (hU 19 (by omega))
    obtain ⟨⟨xo, xn, xc, rfl⟩, hr3⟩ := a3 (hU 3 (by omega))
    obtain ⟨⟨yo, yn, yc, rfl⟩, hr7⟩ := a7 (hU 7 (by omega))
    obtain ⟨⟨zo, zn, zc, rfl⟩, hr11⟩ := a11 (hU 11 (by omega))
    have hup : ∀ u L, Rk .i8 (fun b => W1.heap.size ≤ b ∧ b < X.heap.size) X u L → Rk .i8 (fun b => w.heap.size ≤ b ∧ b < X.heap.size) X u L := fun u L h => h.mono (fun b hb => ⟨by omega, hb.2⟩)
    have HX : Hid (MidV (fun b => w.heap.size ≤ b ∧ b < X.heap.size) X (.agg #[.slice xo xn xc, .slice yo yn yc, .slice zo zn zc, zV m.gs, zV m.us, zV m.ds]) m ∧ Fresh w X) :=
      ⟨⟨_, _, _, rfl, hup _ _ hr3, hup _ _ hr7, hup _ _ hr11, hi1, hi2, hi3⟩, hF1.trans hk (fun i hi e => by omega)⟩
    clear b0 b4 b8 f1 f5 f9 f12 f14 f16 l2 l6 l10 l13 l15 l17 a3 a7 a11 t18 t19 n19 e3 e7 e11 e18 hr3 hr7 hr11 hk hup hB1 hsix0 hsz hBW Hhgr Hhur Hhdr hF1 hW1 hU hz0 hsix
    go_simp
    go_wp2
    exact bodyPost_ret (v := .agg #[.slice xo xn xc, .slice yo yn yc, .slice zo zn zc, zV m.gs, zV m.us, zV m.ds]) (by simp [results, Tryd.results18, go_sem, i0, i1, i2, i3, i4, i5]) rfl ⟨_, rfl, HX.out⟩
end Go.Proofs.YtbppahmcjifflaaDoor
