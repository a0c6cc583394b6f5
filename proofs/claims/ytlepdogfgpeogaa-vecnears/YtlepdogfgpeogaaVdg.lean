/-
  Packed numbers as the document has them: plain.
-/
import Derived.Test.YtlepdogfgpeogaaVdf
namespace Go.Proofs.Ytlepdogfgpeogaa
open Go.RowKit Go.Lib Go.Maps

theorem step_appX {P : Program} {ops : Array Oper} {o : Oper} {a : Act} {w : World} {K : Act → World → Prop} {Q : Exit → Act → World → Prop} {E : Prop} (hgd : o.guard = none) (s x : Operand) (t tn : TypeId)
    (ho : o.op = .call { callee := .builtin .append, args := #[s, x], argTypes := #[t, tn] }) (vs vx : Value) (hs : a.eval s = vs) (hx : a.eval x = vx) {n : Nat} {Post : Option Addr → Nat → World → Prop}
    (hr : ∃ ta tc Y, (Builtin.append_ #[t, tn] o.type #[vs, vx]).run P w = .ok (.slice ta n tc) Y ∧ Post ta tc Y) (h : ∀ ta tc Y, Post ta tc Y → K (a.put o.dst (.slice ta n tc)) Y) :
    if Region.wanted o (yielded ops a.tmps) = true then Oper.wp P o a w K Q else E := by
  obtain ⟨ta, tc, Y, h1, h2⟩ := hr
  exact step_app hgd s x t tn ho vs vx hs hx _ _ h1 (h ta tc Y h2)

theorem cell_other {a b : Addr} (W : World) (v : Value) (h : a ≠ b) : (W.setCell a v).cell? b = W.cell? b := by
  apply World.cell?_setCell_other
  exact h
theorem cell_same {a : Addr} {W : World} {u : Value} (v : Value) (h : W.cell? a = some u) : (W.setCell a v).cell? a = some v := by
  apply World.cell?_setCell_same
  exact h
theorem four_kept (W : World) (b : Nat) (v0 v1 v2 v3 : Value) : Kept (fun x => x = b) W ((((W.setCell ⟨b, 0, none⟩ v0).setCell ⟨b, 1, none⟩ v1).setCell ⟨b, 2, none⟩ v2).setCell ⟨b, 3, none⟩ v3) := by
  have k0 := (Kept.refl (fun x => x = b) W).setCell (p := ⟨b, 0, none⟩) (fun _ => rfl) v0
  have k1 := k0.setCell (p := ⟨b, 1, none⟩) (fun _ => rfl) v1
  have k2 := k1.setCell (p := ⟨b, 2, none⟩) (fun _ => rfl) v2
  exact k2.setCell (p := ⟨b, 3, none⟩) (fun _ => rfl) v3
/-- Four cells of a block written, one after another. -/
theorem four_set (W : World) (b : Nat) {a0 a1 a2 a3 : Value} (v0 v1 v2 v3 : Value) (h0 : W.cell? ⟨b, 0, none⟩ = some a0) (h1 : W.cell? ⟨b, 1, none⟩ = some a1) (h2 : W.cell? ⟨b, 2, none⟩ = some a2) (h3 : W.cell? ⟨b, 3, none⟩ = some a3) :
    ((((W.setCell ⟨b, 0, none⟩ v0).setCell ⟨b, 1, none⟩ v1).setCell ⟨b, 2, none⟩ v2).setCell ⟨b, 3, none⟩ v3).cell? ⟨b, 0, none⟩ = some v0 ∧
    ((((W.setCell ⟨b, 0, none⟩ v0).setCell ⟨b, 1, none⟩ v1).setCell ⟨b, 2, none⟩ v2).setCell ⟨b, 3, none⟩ v3).cell? ⟨b, 1, none⟩ = some v1 ∧
    ((((W.setCell ⟨b, 0, none⟩ v0).setCell ⟨b, 1, none⟩ v1).setCell ⟨b, 2, none⟩ v2).setCell ⟨b, 3, none⟩ v3).cell? ⟨b, 2, none⟩ = some v2 ∧
    ((((W.setCell ⟨b, 0, none⟩ v0).setCell ⟨b, 1, none⟩ v1).setCell ⟨b, 2, none⟩ v2).setCell ⟨b, 3, none⟩ v3).cell? ⟨b, 3, none⟩ = some v3 := by
  refine ⟨?_, ?_, ?_, ?_⟩
  · rw [cell_other _ _ (by simp), cell_other _ _ (by simp), cell_other _ _ (by simp)]
    exact cell_same _ h0
  · rw [cell_other _ _ (by simp), cell_other _ _ (by simp)]
    exact cell_same (u := a1) _ (by rw [cell_other _ _ (by simp)]; exact h1)
  · rw [cell_other _ _ (by simp)]
    exact cell_same (u := a2) _ (by rw [cell_other _ _ (by simp), cell_other _ _ (by simp)]; exact h2)
  · exact cell_same (u := a3) _ (by rw [cell_other _ _ (by simp), cell_other _ _ (by simp), cell_other _ _ (by simp)]; exact h3)
theorem Rk.both {k : IntKind} {p : Nat → Prop} {W : World} {v : Value} {zs : List Int} (h : Rk k p W v zs) : Rk k (fun b => p b ∧ b < W.heap.size) W v zs := by
  obtain ⟨ao, cap, hv, hl, hc, hz⟩ := h
  exact ⟨ao, cap, hv, hl, fun h0 => let ⟨b, off, ha, hp, hb, r⟩ := hc h0; ⟨b, off, ha, ⟨hp, hb⟩, hb, r⟩, hz⟩
theorem keep1 {Ys Yh : World} {o : Obj} {p : Nat → Prop} {v : Value} {xs : List Int} {k : Nat} (rs : Rk .u8 p Ys v xs) (hp : ∀ b, p b → k ≤ b) (kh : Kept (fun b => b = Ys.heap.size) (Ys.alloc o) Yh) : Rk .u8 (fun b => k ≤ b) Yh v xs := by
  have h := (rs.both.fresh ((Kept.refl _ Ys).alloc o)).kept kh (fun b hb e => by have := hb.2; omega)
  exact h.mono (fun b hb => hp b hb.1)
theorem keep2 {Ys Yh : World} {gB : Nat} {p : Nat → Prop} {v : Value} {xs : List Int} {k : Nat} (rs : Rk .u8 p Ys v xs) (hp : ∀ b, p b → k ≤ b ∧ b ≠ gB) (kh : Kept (fun b => b = gB) Ys Yh) : Rk .u8 (fun b => k ≤ b) Yh v xs := (rs.kept kh (fun b hb e => (hp b hb).2 e)).mono (fun b hb => (hp b hb).1)

set_option maxHeartbeats 1000000 in
set_option maxRecDepth 100000 in
theorem plain_any (n g : Int) (sv hv : Value) (ss hs : List Int) (w : World) (hS : Rk .u8 (fun b => b < w.heap.size) w sv ss) (hH : Rk .u8 (fun b => b < w.heap.size) w hv hs) :
    Calls Try.prog 20 #[.agg #[zV n, zV g, sv, hv]] w fun e w' => ∃ tv uv, e = .returned (.agg #[zV n, zV g, tv, uv]) ∧ Rk .u8 (fun _ => True) w' tv ss ∧ Rk .u8 (fun _ => True) w' uv hs ∧ Fresh w w' := by
  obtain ⟨w1, hw1⟩ : ∃ w1, w1 = (w.alloc (.cells #[zV n, zV g, sv, hv] 48)).alloc (.cells #[zV 0, zV 0, .slice none 0 0, .slice none 0 0] 51) := ⟨_, rfl⟩
  have hF1 : Fresh w w1 := by rw [hw1]; exact ((Kept.refl _ w).alloc _).alloc _
  have HF1 : Hid (Fresh w w1) := hF1
  have p1 : w1.heap[w.heap.size]? = some (.cells #[zV n, zV g, sv, hv] 48 (0, 0)) := by rw [hw1]; exact (Below.heap_alloc _ _ _ (by simp)).trans (heap_alloc_new w _)
  have p2 : w1.heap[w.heap.size + 1]? = some (.cells #[zV 0, zV 0, .slice none 0 0, .slice none 0 0] 51 (0, 0)) := by
    rw [hw1]
    have := heap_alloc_new (w.alloc (.cells #[zV n, zV g, sv, hv] 48)) (.cells #[zV 0, zV 0, .slice none 0 0, .slice none 0 0] 51)
    rwa [World.size_alloc] at this
  have HSt : Hid (∀ W, Fresh w1 W → W.cell? ⟨w.heap.size, 0, none⟩ = some (zV n) ∧ W.cell? ⟨w.heap.size, 1, none⟩ = some (zV g) ∧ W.cell? ⟨w.heap.size, 2, none⟩ = some sv ∧ W.cell? ⟨w.heap.size, 3, none⟩ = some hv) := fun W hF => by
    have q1 := hF.at p1 (fun e => e)
    exact ⟨by rw [Lib.cell_of_heap q1]; rfl, by rw [Lib.cell_of_heap q1]; rfl, by rw [Lib.cell_of_heap q1]; rfl, by rw [Lib.cell_of_heap q1]; rfl⟩
  have HSt2 : Hid (∀ W, Kept (fun b => b = w.heap.size + 1) w1 W → W.cell? ⟨w.heap.size, 0, none⟩ = some (zV n) ∧ W.cell? ⟨w.heap.size, 1, none⟩ = some (zV g) ∧ W.cell? ⟨w.heap.size, 2, none⟩ = some sv ∧ W.cell? ⟨w.heap.size, 3, none⟩ = some hv) := fun W hF => by
    have q1 := hF.at p1 (fun e => by omega)
    exact ⟨by rw [Lib.cell_of_heap q1]; rfl, by rw [Lib.cell_of_heap q1]; rfl, by rw [Lib.cell_of_heap q1]; rfl, by rw [Lib.cell_of_heap q1]; rfl⟩
  have HSz : Hid (w.heap.size + 2 = w1.heap.size) := by show _ = _; rw [hw1, World.size_alloc, World.size_alloc]
  have HRes : Hid (∀ W, Fresh w1 W → W.cell? ⟨w.heap.size + 1, 0, none⟩ = some (zV 0) ∧ W.cell? ⟨w.heap.size + 1, 1, none⟩ = some (zV 0) ∧ W.cell? ⟨w.heap.size + 1, 2, none⟩ = some (.slice none 0 0) ∧ W.cell? ⟨w.heap.size + 1, 3, none⟩ = some (.slice none 0 0) ∧ ∀ i, W.frozen? ⟨w.heap.size + 1, i, none⟩ = false) := fun W hF => by
    have q1 := hF.at p2 (fun e => e)
    exact ⟨by rw [Lib.cell_of_heap q1]; rfl, by rw [Lib.cell_of_heap q1]; rfl, by rw [Lib.cell_of_heap q1]; rfl, by rw [Lib.cell_of_heap q1]; rfl, fun i => Lib.frozen_of_heap q1 i⟩
  have Hs : Hid (∀ (Z : World) (g : Nat), Fresh w1 Z → Z.ownsRow w1.heap.size 5 1 (.slice (some ⟨g, 0, none⟩) 0 0) 0 [] → _) := fun Z g hF ho => app_u8 w1 Z g hF ho sv ss ((hS.fresh hF1).mono (fun b hb => Nat.lt_of_lt_of_le hb hF1.size))
  have Hh : Hid (∀ (Z : World) (g : Nat), Fresh w1 Z → Z.ownsRow w1.heap.size 5 1 (.slice (some ⟨g, 0, none⟩) 0 0) 0 [] → _) := fun Z g hF ho => app_u8 w1 Z g hF ho hv hs ((hH.fresh hF1).mono (fun b hb => Nat.lt_of_lt_of_le hb hF1.size))
  have HZ : Hid (((w1.alloc (.cells #[] 5)).drew).heap.size = w1.heap.size + 1 ∧ (((w1.alloc (.cells #[] 5)).alloc (.cells #[] 5)).drew).heap.size = w1.heap.size + 2) := ⟨by show (w1.alloc (.cells #[] 5)).heap.size = _; rw [World.size_alloc], by show ((w1.alloc (.cells #[] 5)).alloc (.cells #[] 5)).heap.size = _; rw [World.size_alloc, World.size_alloc]⟩
  have HF0 : Hid (Fresh w1 ((w1.alloc (.cells #[] 5)).drew)) := ((Kept.refl _ w1).alloc _).drew
  have HF00 : Hid (Fresh w1 (((w1.alloc (.cells #[] 5)).alloc (.cells #[] 5)).drew)) := (((Kept.refl _ w1).alloc _).alloc _).drew
  have hO1 : (w1.alloc (.cells #[] 5)).ownsRow w1.heap.size 5 1 (.slice (some ⟨w1.heap.size, 0, none⟩) 0 0) 0 [] := own_empty w1 _ (Nat.le_refl _) _
  have HO1 : Hid (((w1.alloc (.cells #[] 5)).drew).ownsRow w1.heap.size 5 1 (.slice (some ⟨w1.heap.size, 0, none⟩) 0 0) 0 []) := owns_kept hO1 (Kept.refl (fun _ => False) _).drew (fun _ _ e => e)
  have HO2 : Hid ((((w1.alloc (.cells #[] 5)).alloc (.cells #[] 5)).drew).ownsRow w1.heap.size 5 1 (.slice (some ⟨w1.heap.size, 0, none⟩) 0 0) 0 [] ∧ (((w1.alloc (.cells #[] 5)).alloc (.cells #[] 5)).drew).ownsRow w1.heap.size 5 1 (.slice (some ⟨w1.heap.size + 1, 0, none⟩) 0 0) 0 []) := by
    refine ⟨owns_kept hO1 ((Kept.refl (fun _ => False) _).alloc _).drew (fun _ _ e => e), ?_⟩
    have := own_empty (w1.alloc (.cells #[] 5)) w1.heap.size (by rw [World.size_alloc]; omega) 5
    rw [World.size_alloc] at this
    exact owns_kept this (Kept.refl (fun _ => False) _).drew (fun _ _ e => e)
  obtain ⟨sa0, sc0, hsv, _⟩ := hS.shape
  obtain ⟨ha0, hc0, hhv, _⟩ := hH.shape
  subst hsv
  subst hhv
  clear hS hH p1 p2 hF1 hO1
  have hq0 := HSt.out w1.drew (Kept.refl _ w1).drew
  have hq1 := HSt.out _ HF0.out
  have hq2 := HSt.out _ HF00.out
  go_enter Try.func20, Try.ntmps20
  go_wp2_with fail
  rw [← hw1]
  clear hw1
  go_region_held_law (fun X => X.cell? ⟨w.heap.size, 0, none⟩ = some (zV n) ∧ X.cell? ⟨w.heap.size, 1, none⟩ = some (zV g) ∧ X.cell? ⟨w.heap.size, 2, none⟩ = some (.slice sa0 ss.length sc0) ∧ X.cell? ⟨w.heap.size, 3, none⟩ = some (.slice ha0 hs.length hc0))
    (first | with_reducible exact hq0 | with_reducible exact hq1 | with_reducible exact hq2 | with_reducible exact qs | with_reducible exact qh | with_reducible exact HSt.out _ (fs.alloc _) | with_reducible exact qf | with_reducible assumption)
    (first
      | (refine step_appX rfl _ _ _ _ rfl _ _ (by rfl) (by rfl) (Hs.out _ _ ?_ ?_) ?_
         · first | with_reducible exact HF0.out | with_reducible exact HF00.out
         · first | with_reducible exact HO1.out | with_reducible exact HO2.out.1 | with_reducible exact HO2.out.2
         rintro ta tc Ys ⟨fs, ks, rs⟩; have qs := HSt.out Ys fs)
      | (refine step_appX rfl _ _ _ _ rfl _ _ (by rfl) (by rfl) (Hh.out _ _ ?_ ?_) ?_
         · first | with_reducible exact fs | with_reducible exact (fs.alloc _)
         · first | with_reducible exact (own_empty Ys _ fs.size _) | with_reducible exact owns_kept HO2.out.1 ks (fun b e q => by simp [Value.ownBlock] at e; omega) | with_reducible exact owns_kept HO2.out.2 ks (fun b e q => by simp [Value.ownBlock] at e; omega)
         rintro ua uc Yh ⟨fh, kh, rh⟩; have qh := HSt.out Yh fh; obtain ⟨t0, t1, t2, t3, t4⟩ := HRes.out Yh fh
         have kf := four_kept Yh (w.heap.size + 1) (Value.int .i64 n) (Value.int .i64 g) (.slice ta ss.length tc) (.slice ua hs.length uc)
         have qf := HSt2.out _ ((Kept.mono (S' := fun x => x = w.heap.size + 1) fh (fun _ _ e => False.elim e)).trans kf (fun _ _ e => e))))
  all_goals
    have hRS : Rk .u8 (fun b => w1.heap.size ≤ b) Yh (.slice ta ss.length tc) ss := by
      have z := HZ.out
      first
      | exact keep1 rs (fun b hb => by omega) kh
      | exact keep2 rs (fun b hb => by omega) kh
    have hRH : Rk .u8 (fun b => w1.heap.size ≤ b) Yh (.slice ua hs.length uc) hs := rh.mono (fun b hb => by have := fs.size; have := World.size_alloc Ys (.cells #[] 5); omega)
    have hk1 := four_set Yh (w.heap.size + 1) (Value.int .i64 n) (Value.int .i64 g) (.slice ta ss.length tc) (.slice ua hs.length uc) t0 t1 t2 t3
    have hSz := HSz.out
    have HA : Hid (Rk .u8 (fun _ => True) ((((Yh.setCell ⟨w.heap.size + 1, 0, none⟩ (Value.int .i64 n)).setCell ⟨w.heap.size + 1, 1, none⟩ (Value.int .i64 g)).setCell ⟨w.heap.size + 1, 2, none⟩ (.slice ta ss.length tc)).setCell ⟨w.heap.size + 1, 3, none⟩ (.slice ua hs.length uc)) (.slice ta ss.length tc) ss ∧ Rk .u8 (fun _ => True) ((((Yh.setCell ⟨w.heap.size + 1, 0, none⟩ (Value.int .i64 n)).setCell ⟨w.heap.size + 1, 1, none⟩ (Value.int .i64 g)).setCell ⟨w.heap.size + 1, 2, none⟩ (.slice ta ss.length tc)).setCell ⟨w.heap.size + 1, 3, none⟩ (.slice ua hs.length uc)) (.slice ua hs.length uc) hs ∧ Fresh w ((((Yh.setCell ⟨w.heap.size + 1, 0, none⟩ (Value.int .i64 n)).setCell ⟨w.heap.size + 1, 1, none⟩ (Value.int .i64 g)).setCell ⟨w.heap.size + 1, 2, none⟩ (.slice ta ss.length tc)).setCell ⟨w.heap.size + 1, 3, none⟩ (.slice ua hs.length uc))) := ⟨(hRS.kept kf (fun b hb e => by omega)).mono (fun _ _ => trivial), (hRH.kept kf (fun b hb e => by omega)).mono (fun _ _ => trivial), (HF1.out.trans fh (fun _ _ e => e)).trans kf (fun i hi e => by omega)⟩
    generalize ((((Yh.setCell ⟨w.heap.size + 1, 0, none⟩ (Value.int .i64 n)).setCell ⟨w.heap.size + 1, 1, none⟩ (Value.int .i64 g)).setCell ⟨w.heap.size + 1, 2, none⟩ (.slice ta ss.length tc)).setCell ⟨w.heap.size + 1, 3, none⟩ (.slice ua hs.length uc)) = WF at *
    obtain ⟨r0, r1, r2, r3⟩ := hk1
    clear hRS hRH kf qf qh qs fs ks rs fh kh rh t0 t1 t2 t3 t4 hq0 hq1 hq2
    go_wp2
    exact bodyPost_ret (v := .agg #[zV n, zV g, .slice ta ss.length tc, .slice ua hs.length uc]) (by simp [results, Try.results20, go_sem, r0, r1, r2, r3]) rfl ⟨_, _, rfl, HA.out⟩
end Go.Proofs.Ytlepdogfgpeogaa
