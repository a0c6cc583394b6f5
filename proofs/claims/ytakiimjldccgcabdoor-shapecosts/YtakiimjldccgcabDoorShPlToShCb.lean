/-
  A shape as the document has it.
-/
import Derived.Test.YtakiimjldccgcabDoorFilToShA
import Derived.Test.YtakiimjldccgcabDoorStRToVoN
import Derived.Test.YtakiimjldccgcabDoorShDToShG
import Derived.Test.YtakiimjldccgcabDoorShJToShN
import Derived.Deep.RegionHeld3
import Derived.Deep.DeepCutAuto
namespace Go.Proofs.YtakiimjldccgcabDoor
open Go.RowKit Go.Lib Go.Maps

theorem plain_any (s : Shp) (w : World) : Calls Tryd.prog 8 #[s.val] w fun e w' => e = .returned s.val ∧ Fresh w w' := by
  obtain ⟨v, c, d, h, l, n⟩ := s
  unfold Shp.val
  simp only
  have h2 := heap_alloc_new (w.alloc (.cells #[zV v, zV c, zV d, zV h, zV l, zV n] 23)) (.cells #[zV v, zV c, zV d, zV h, zV l, zV n] 33)
  rw [World.size_alloc] at h2
  go_enter Tryd.func8, Tryd.ntmps8
  go_wp2
  exact ret_cell rfl (w.heap.size + 1) _ _ (0, 0) _ rfl h2 Tryd.underlying33 rfl (by kernel_rfl) rfl ⟨rfl, ((Kept.refl _ w).alloc _).alloc _⟩
end Go.Proofs.YtakiimjldccgcabDoor

/-
  What a model of a shape costs: as numbers.
-/
namespace Go.Proofs.YtakiimjldccgcabDoor
open Go.RowKit Go.Lib Go.Maps

/-- The error, and what is told: numbers, bytes of pairs, a pass, a score. -/
def csE (s : Shp) (p : Int) : Int := if shB s = true then (if 0 ≤ p ∧ p ≤ s.c then 0 else 1) else 160
def csN (s : Shp) (p : Int) : Int := if csE s p = 0 then shN s else 0
def csP (s : Shp) (p : Int) : Int := if csE s p = 0 then s.l * (2 * s.d * p) else 0
def csA (s : Shp) (p : Int) : Int := if csE s p = 0 then s.l * (4 * (s.d * s.d) + 2 * s.d * p + 3 * (s.n * s.d)) else 0
def csS (s : Shp) (p : Int) : Int := if csE s p = 0 then s.v * s.d else 0
theorem cs_bad {s : Shp} {p : Int} (h : csE s p ≠ 0) : csN s p = 0 ∧ csP s p = 0 ∧ csA s p = 0 ∧ csS s p = 0 := ⟨if_neg h, if_neg h, if_neg h, if_neg h⟩
theorem cs_ok {s : Shp} {p : Int} (h : csE s p = 0) : csN s p = shN s ∧ csP s p = s.l * (2 * s.d * p) ∧ csA s p = s.l * (4 * (s.d * s.d) + 2 * s.d * p + 3 * (s.n * s.d)) ∧ csS s p = s.v * s.d := ⟨if_pos h, if_pos h, if_pos h, if_pos h⟩
theorem csE_sh {s : Shp} (p : Int) (h : shB s = false) : csE s p = 160 := if_neg (by rw [h]; decide)
theorem csE_in {s : Shp} {p : Int} (h : shB s = true) (h2 : 0 ≤ p ∧ p ≤ s.c) : csE s p = 0 := (if_pos h).trans (if_pos h2)
theorem csE_out {s : Shp} {p : Int} (h : shB s = true) (h2 : ¬ (0 ≤ p ∧ p ≤ s.c)) : csE s p = 1 := (if_pos h).trans (if_neg h2)
theorem csE_zero {s : Shp} {p : Int} (h : csE s p = 0) : shB s = true ∧ 0 ≤ p ∧ p ≤ s.c := by
  unfold csE at h
  split at h
  · rename_i h1
    split at h
    · rename_i h2
      exact ⟨h1, h2⟩
    · cases h
  · cases h
/-- The numbers of a shape that is right, at so many places. -/
structure Csh (s : Shp) (p : Int) (V C D L N P q : Nat) : Prop where
  r : Rsh s V C D L N P
  hq : p = (q : Int)
  qc : q ≤ C
  n : csN s p = shN s
  p' : csP s p = ((L * (2 * D * q) : Nat) : Int)
  a : csA s p = ((L * (4 * (D * D) + 2 * D * q + 3 * (N * D)) : Nat) : Int)
  s' : csS s p = ((V * D : Nat) : Int)
theorem csh_of {s : Shp} {p : Int} (h : csE s p = 0) : ∃ V C D L N P q, Csh s p V C D L N P q := by
  obtain ⟨hb, h1, h2⟩ := csE_zero h
  obtain ⟨V, C, D, L, N, P, hs⟩ := rsh_of hb
  obtain ⟨q, rfl⟩ := Int.eq_ofNat_of_zero_le h1
  obtain ⟨e1, e2, e3, e4⟩ := cs_ok h
  refine ⟨V, C, D, L, N, P, q, hs, rfl, ?_, e1, ?_, ?_, ?_⟩
  · rw [hs.c] at h2; omega
  · rw [e2, hs.l, hs.d]; simp only [Int.natCast_mul]; rfl
  · rw [e3, hs.l, hs.d, hs.n]; simp only [Int.natCast_mul, Int.natCast_add]; rfl
  · rw [e4, hs.v, hs.d, Int.natCast_mul]
theorem Csh.bounds {s : Shp} {p : Int} {V C D L N P q : Nat} (h : Csh s p V C D L N P q) : 2 * D ≤ 128 ∧ 2 * D * q ≤ 65536 ∧ L * (2 * D * q) ≤ 524288 ∧ D * D ≤ 4096 ∧ N * D ≤ 16384 ∧ V * D ≤ 32768 ∧ L * (4 * (D * D) + 2 * D * q + 3 * (N * D)) ≤ 1048576 := by
  obtain ⟨d1, d2⟩ := h.r.d1
  obtain ⟨c1, c2⟩ := h.r.c1
  obtain ⟨l1, l2⟩ := h.r.l1
  obtain ⟨n1, n2⟩ := h.r.n1
  obtain ⟨v1, v2⟩ := h.r.v1
  have hq := h.qc
  have m1 : 2 * D ≤ 128 := by omega
  have m2 : 2 * D * q ≤ 128 * 512 := nat_mul_le m1 (by omega)
  have m3 : L * (2 * D * q) ≤ 8 * (128 * 512) := nat_mul_le l2 m2
  have m4 : D * D ≤ 64 * 64 := nat_mul_le d2 d2
  have m5 : N * D ≤ 256 * 64 := nat_mul_le n2 d2
  have m6 : V * D ≤ 512 * 64 := nat_mul_le v2 d2
  have m7 : L * (4 * (D * D) + 2 * D * q + 3 * (N * D)) ≤ 8 * 131072 := nat_mul_le l2 (by omega)
  omega
end Go.Proofs.YtakiimjldccgcabDoor

/-
  What a model of a shape costs: the package's walk.
-/
namespace Go.Proofs.YtakiimjldccgcabDoor
open Go.RowKit Go.Lib Go.Maps

theorem cost_ret {w W : World} {a0 a1 a2 a3 : Value} {t : TypeId} (h : W.heap[w.heap.size + 1]? = some (.cells #[a0, a1, a2, a3] t (0, 0))) (hf : Fresh w W) (v0 v1 v2 v3 : Value) :
    ((((W.setCell ⟨w.heap.size + 1, 0, none⟩ v0).setCell ⟨w.heap.size + 1, 1, none⟩ v1).setCell ⟨w.heap.size + 1, 2, none⟩ v2).setCell ⟨w.heap.size + 1, 3, none⟩ v3).heap[w.heap.size + 1]? = some (.cells #[v0, v1, v2, v3] t (0, 0)) ∧ Fresh w ((((W.setCell ⟨w.heap.size + 1, 0, none⟩ v0).setCell ⟨w.heap.size + 1, 1, none⟩ v1).setCell ⟨w.heap.size + 1, 2, none⟩ v2).setCell ⟨w.heap.size + 1, 3, none⟩ v3) := by
  have hn : ¬ w.heap.size + 1 < w.heap.size := by omega
  exact ⟨Lib.heap_setCell_same (Lib.heap_setCell_same (Lib.heap_setCell_same (Lib.heap_setCell_same h v0 (i := 0)) v1 (i := 1)) v2 (i := 2)) v3 (i := 3), (((hf.setCell (p := ⟨w.heap.size + 1, 0, none⟩) (fun e => absurd e hn) v0).setCell (p := ⟨w.heap.size + 1, 1, none⟩) (fun e => absurd e hn) v1).setCell (p := ⟨w.heap.size + 1, 2, none⟩) (fun e => absurd e hn) v2).setCell (p := ⟨w.heap.size + 1, 3, none⟩) (fun e => absurd e hn) v3⟩
theorem cstSize : (Tryd.prog.info? 26).map (·.size) = some 4 := by kernel_rfl
set_option maxHeartbeats 2000000 in
set_option maxRecDepth 100000 in
theorem Costs_any (s : Shp) (p : Int) (w : World) : Calls Tryd.prog 6 #[s.val, zV p] w fun e w' => e = .returned (.tuple #[.agg #[zV (csN s p), zV (csP s p), zV (csA s p), zV (csS s p)], zV (csE s p)]) ∧ Fresh w w' := by
  have HN : Hid (∀ X, _) := fun X => Numbers_any s X
  have HW : Hid (∀ X, _) := fun X => within_any p 0 s.c X
  have HBX := show Hid _ from box2 w #[zV s.v, zV s.c, zV s.d, zV s.h, zV s.l, zV s.n] #[zV 0, zV 0, zV 0, zV 0] 23 26
  have HX : Hid (∀ X, Fresh ((w.alloc (.cells #[zV s.v, zV s.c, zV s.d, zV s.h, zV s.l, zV s.n] 23)).alloc (.cells #[zV 0, zV 0, zV 0, zV 0] 26)) X → Fresh w X ∧ (X.cell? ⟨w.heap.size, 0, none⟩ = some (zV s.v) ∧ X.cell? ⟨w.heap.size, 1, none⟩ = some (zV s.c) ∧ X.cell? ⟨w.heap.size, 2, none⟩ = some (zV s.d) ∧ X.cell? ⟨w.heap.size, 3, none⟩ = some (zV s.h) ∧ X.cell? ⟨w.heap.size, 4, none⟩ = some (zV s.l) ∧ X.cell? ⟨w.heap.size, 5, none⟩ = some (zV s.n)) ∧ X.heap[w.heap.size + 1]? = some (.cells #[zV 0, zV 0, zV 0, zV 0] 26 (0, 0))) := fun X hX => by
    obtain ⟨h1, h2, h3⟩ := HBX.out X hX
    exact ⟨h1, ⟨by rw [Lib.cell_of_heap h2]; rfl, by rw [Lib.cell_of_heap h2]; rfl, by rw [Lib.cell_of_heap h2]; rfl, by rw [Lib.cell_of_heap h2]; rfl, by rw [Lib.cell_of_heap h2]; rfl, by rw [Lib.cell_of_heap h2]; rfl⟩, h3⟩
  have HZ : Hid (∀ X : World, X.heap[w.heap.size + 1]? = some (.cells #[zV 0, zV 0, zV 0, zV 0] 26 (0, 0)) → (∀ k, k < 4 → X.cell? ⟨w.heap.size + 1, k, none⟩ = some (zV 0)) ∧ ∀ k, X.frozen? ⟨w.heap.size + 1, k, none⟩ = false) := fun X h => ⟨fun k hk => by
    rw [Lib.cell_of_heap h]
    rcases (show k = 0 ∨ k = 1 ∨ k = 2 ∨ k = 3 by omega) with rfl | rfl | rfl | rfl <;> rfl, fun k => Lib.frozen_of_heap h k⟩
  clear HBX
  by_cases hE : csE s p = 0
  · obtain ⟨V, C, D, L, N, P, q, h⟩ := csh_of hE
    obtain ⟨b1, b2, b3, b4, b5, b6, b7⟩ := h.bounds
    have HSZ : Hid (∀ X, _) := fun X => sizesOf_any s V C D L N P X h.r
    have hwi : wiB p 0 s.c = true := (wiB_iff _ _ _).2 (csE_zero hE).2
    rw [hwi] at HW
    rw [shE_ok h.r.ok] at HN
    rw [hE, h.n, h.p', h.a, h.s']
    have hp := h.hq
    subst hp
    have e1 : 2 * (D : Int) = ((2 * D : Nat) : Int) := by simp
    have e2 : ((2 * D : Nat) : Int) * (q : Int) = ((2 * D * q : Nat) : Int) := by simp
    have e3 : (L : Int) * ((2 * D * q : Nat) : Int) = ((L * (2 * D * q) : Nat) : Int) := by simp
    have e4 : 4 * ((D * D : Nat) : Int) + ((2 * D * q : Nat) : Int) + 3 * ((N * D : Nat) : Int) = ((4 * (D * D) + 2 * D * q + 3 * (N * D) : Nat) : Int) := by simp
    have e5 : (L : Int) * ((4 * (D * D) + 2 * D * q + 3 * (N * D) : Nat) : Int) = ((L * (4 * (D * D) + 2 * D * q + 3 * (N * D)) : Nat) : Int) := by simp
    obtain ⟨f1, f2, f3, f4, f5⟩ := And.intro h.r.v (And.intro h.r.c (And.intro h.r.d (And.intro h.r.l h.r.n)))
    have hl8 := h.r.l1
    have h4d : 4 * (D * D) + 2 * D * q + 3 * (N * D) ≤ 131072 := by omega
    clear h hE hwi
    generalize shN s = nn at *
    unfold Shp.val at *
    obtain ⟨sv1, sv2, sv3, hh, sv5, sv6⟩ := s
    simp only at f1 f2 f3 f4 f5 HN HW HSZ HX
    subst f1 f2 f3 f4 f5
    simp only
    generalize L * (2 * D * q) = P1 at *
    generalize L * (4 * (D * D) + 2 * D * q + 3 * (N * D)) = P2 at *
    generalize 4 * (D * D) + 2 * D * q + 3 * (N * D) = P3 at *
    generalize 2 * D * q = P4 at *
    generalize 2 * D = P5 at *
    generalize V * D = A1 at *
    generalize C * P = A2 at *
    generalize D * D = A3 at *
    generalize N * D = A4 at *
    have g1 : IntKind.i64.wrap (2 * (D : Int)) = 2 * (D : Int) := by rw [IntKind.wrap_i64]; omega
    have g2 : IntKind.i64.wrap (P5 : Int) = P5 := by rw [IntKind.wrap_i64]; omega
    have g3 : IntKind.i64.wrap (P4 : Int) = P4 := by rw [IntKind.wrap_i64]; omega
    have g4 : IntKind.i64.wrap (P1 : Int) = P1 := by rw [IntKind.wrap_i64]; omega
    have g5 : IntKind.i64.wrap (4 * (A3 : Int)) = 4 * (A3 : Int) := by rw [IntKind.wrap_i64]; omega
    have g6 : IntKind.i64.wrap (4 * (A3 : Int) + (P4 : Int)) = 4 * (A3 : Int) + (P4 : Int) := by rw [IntKind.wrap_i64]; omega
    have g7 : IntKind.i64.wrap (3 * (A4 : Int)) = 3 * (A4 : Int) := by rw [IntKind.wrap_i64]; omega
    have g8 : IntKind.i64.wrap (P3 : Int) = P3 := by rw [IntKind.wrap_i64]; omega
    have g9 : IntKind.i64.wrap (P2 : Int) = P2 := by rw [IntKind.wrap_i64]; omega
    go_enter Tryd.func6, Tryd.ntmps6
    go_upto_region 1 with fail
    obtain ⟨_, ⟨c0, c1, c2, c3, c4, c5⟩, _⟩ := HX.out _ (Kept.refl _ _)
    have hk0 := Kept.refl (fun _ => False) ((w.alloc (.cells #[zV (V : Int), zV (C : Int), zV (D : Int), zV hh, zV (L : Int), zV (N : Int)] 23)).alloc (.cells #[zV 0, zV 0, zV 0, zV 0] 26))
    generalize ((w.alloc (.cells #[zV (V : Int), zV (C : Int), zV (D : Int), zV hh, zV (L : Int), zV (N : Int)] 23)).alloc (.cells #[zV 0, zV 0, zV 0, zV 0] 26)) = W0 at *
    go_wp2_with fail
    refine Calls.mono (HN.out _) ?_
    rintro e X1 ⟨rfl, hf1⟩
    have HF1 : Hid (Fresh W0 X1) := hf1
    clear hf1 hk0 c0 c1 c2 c3 c4 c5 HN
    go_upto_region 4 with fail
    obtain ⟨_, ⟨c0, c1, c2, c3, c4, c5⟩, _⟩ := HX.out X1 HF1.out
    go_wp2_with fail
    refine Calls.mono (HW.out _) ?_
    rintro e X2 ⟨rfl, rfl⟩
    clear HW
    go_upto_region 6 with fail
    have HS2 : Hid (∀ Z, Fresh W0 Z → (Z.cell? ⟨w.heap.size, 0, none⟩ = some (zV (V : Int)) ∧ Z.cell? ⟨w.heap.size, 1, none⟩ = some (zV (C : Int)) ∧ Z.cell? ⟨w.heap.size, 2, none⟩ = some (zV (D : Int)) ∧ Z.cell? ⟨w.heap.size, 3, none⟩ = some (zV hh) ∧ Z.cell? ⟨w.heap.size, 4, none⟩ = some (zV (L : Int)) ∧ Z.cell? ⟨w.heap.size, 5, none⟩ = some (zV (N : Int))) ∧ Fresh W0 Z) := fun Z hZ => ⟨(HX.out Z hZ).2.1, hZ⟩
    have hFd : Fresh W0 X2.drew := HF1.out.trans (Kept.refl _ X2).drew (fun _ _ e => e)
    have hSd := HS2.out X2.drew hFd
    have hge : W0.heap.size ≤ X2.heap.size := HF1.out.size
    have hn2 : ¬ X2.heap.size < W0.heap.size := by omega
    go_cut [8, 9] (fun pv lv w' => ∃ q8 : Nat, pv = .pointer (some ⟨q8, 0, none⟩) ∧ lv = zV P4 ∧ Hid (Fresh W0 w' ∧ w'.heap[q8]? = some (.cells #[zV (A1 : Int), zV (A2 : Int), zV (D : Int), zV (A3 : Int), zV (A4 : Int)] 81 (0, 0))))
    case first =>
      go_region_held3 (fun Z => (Z.cell? ⟨w.heap.size, 0, none⟩ = some (zV (V : Int)) ∧ Z.cell? ⟨w.heap.size, 1, none⟩ = some (zV (C : Int)) ∧ Z.cell? ⟨w.heap.size, 2, none⟩ = some (zV (D : Int)) ∧ Z.cell? ⟨w.heap.size, 3, none⟩ = some (zV hh) ∧ Z.cell? ⟨w.heap.size, 4, none⟩ = some (zV (L : Int)) ∧ Z.cell? ⟨w.heap.size, 5, none⟩ = some (zV (N : Int))) ∧ Fresh W0 Z) (first | with_reducible exact hSd | with_reducible exact hS' | with_reducible exact HS2.out _ (hS'.2.alloc _) | (have hSy : _ ∧ Fresh W0 _ := (by assumption); with_reducible exact HS2.out _ (hSy.2.alloc _)) | with_reducible exact HS2.out _ (HF1.out.alloc _).drew | (have hSy : _ ∧ Fresh W0 _ := (by assumption); exact HS2.out _ (((((hSy.2.setCell (p := ⟨X2.heap.size, 0, none⟩) (fun e => absurd e hn2) _).setCell (p := ⟨X2.heap.size, 1, none⟩) (fun e => absurd e hn2) _).setCell (p := ⟨X2.heap.size, 2, none⟩) (fun e => absurd e hn2) _).setCell (p := ⟨X2.heap.size, 3, none⟩) (fun e => absurd e hn2) _).setCell (p := ⟨X2.heap.size, 4, none⟩) (fun e => absurd e hn2) _)) | assumption) (first | (go_at_call 25; have hSx : _ ∧ Fresh W0 _ := (by assumption); (with_reducible refine (HSZ.out _).mono ?_); rintro r Y ⟨rfl, hfY⟩; have hS' := HS2.out Y (hSx.2.trans hfY (fun _ _ e => e)); have hgY := hfY.size; (first | (have hq5 : Y.heap[X2.heap.size]? = some (.cells #[zV 0, zV 0, zV 0, zV 0, zV 0] 81 (0, 0)) := hfY.at (heap_alloc_new X2 _) (fun e => e); have q0 : Y.cell? ⟨X2.heap.size, 0, none⟩ = some (zV 0) := (by rw [Lib.cell_of_heap hq5]; rfl); have q1 : Y.cell? ⟨X2.heap.size, 1, none⟩ = some (zV 0) := (by rw [Lib.cell_of_heap hq5]; rfl); have q2 : Y.cell? ⟨X2.heap.size, 2, none⟩ = some (zV 0) := (by rw [Lib.cell_of_heap hq5]; rfl); have q3 : Y.cell? ⟨X2.heap.size, 3, none⟩ = some (zV 0) := (by rw [Lib.cell_of_heap hq5]; rfl); have q4 : Y.cell? ⟨X2.heap.size, 4, none⟩ = some (zV 0) := (by rw [Lib.cell_of_heap hq5]; rfl); have qf : ∀ q, Y.frozen? ⟨X2.heap.size, q, none⟩ = false := fun q => Lib.frozen_of_heap hq5 q) | skip)))
      all_goals
        go_wp2
        go_meet
        case rel => first
          | exact ⟨Y.heap.size, rfl, rfl, hS'.2.alloc _, heap_alloc_new Y _⟩
          | exact ⟨X2.heap.size, rfl, rfl, (((((hS'.2.setCell (p := ⟨X2.heap.size, 0, none⟩) (fun e => absurd e hn2) _).setCell (p := ⟨X2.heap.size, 1, none⟩) (fun e => absurd e hn2) _).setCell (p := ⟨X2.heap.size, 2, none⟩) (fun e => absurd e hn2) _).setCell (p := ⟨X2.heap.size, 3, none⟩) (fun e => absurd e hn2) _).setCell (p := ⟨X2.heap.size, 4, none⟩) (fun e => absurd e hn2) _), (Lib.heap_setCell_same (Lib.heap_setCell_same (Lib.heap_setCell_same (Lib.heap_setCell_same (Lib.heap_setCell_same hq5 _ (i := 0)) _ (i := 1)) _ (i := 2)) _ (i := 3)) _ (i := 4))⟩
    case rest =>
      obtain ⟨q8, rfl, rfl, HA⟩ := hcut
      clear hSd hFd HS2 hge hn2 HSZ
      generalize hwc : wc = Z at *
      clear hwc
      obtain ⟨hfw, ⟨y0, y1, y2, y3, y4, y5⟩, hres⟩ := HX.out Z HA.out.1
      have HFZ := show Hid _ from hfw
      have HRS := show Hid _ from hres
      have v0 : Z.cell? ⟨q8, 0, none⟩ = some (zV (A1 : Int)) := by rw [Lib.cell_of_heap HA.out.2]; rfl
      have v3 : Z.cell? ⟨q8, 3, none⟩ = some (zV (A3 : Int)) := by rw [Lib.cell_of_heap HA.out.2]; rfl
      have v4 : Z.cell? ⟨q8, 4, none⟩ = some (zV (A4 : Int)) := by rw [Lib.cell_of_heap HA.out.2]; rfl
      have z0 := (HZ.out Z HRS.out).1 0 (by omega)
      have z1 := (HZ.out Z HRS.out).1 1 (by omega)
      have z2 := (HZ.out Z HRS.out).1 2 (by omega)
      have z3 := (HZ.out Z HRS.out).1 3 (by omega)
      have zf := (HZ.out Z HRS.out).2
      clear hfw hres HX HZ
      go_wp2
      exact ret_ct rfl (w.heap.size + 1) _ _ _ _ rfl (cost_ret HRS.out HFZ.out _ _ _ _).1 rfl rfl cstSize rfl ⟨rfl, (cost_ret HRS.out HFZ.out _ _ _ _).2⟩
  obtain ⟨n0, p0, a0, s0⟩ := cs_bad hE
  rw [n0, p0, a0, s0]
  cases hb : shB s with
  | false =>
    rw [csE_sh p hb]
    rw [shE_bad hb, shN_bad hb] at HN
    clear HW hE n0 p0 a0 s0 hb
    unfold Shp.val at *
    obtain ⟨sv1, sv2, sv3, hh, sv5, sv6⟩ := s
    simp only at HN HX ⊢
    go_enter Tryd.func6, Tryd.ntmps6
    go_upto_region 1 with fail
    obtain ⟨_, ⟨c0, c1, c2, c3, c4, c5⟩, _⟩ := HX.out _ (Kept.refl _ _)
    generalize ((w.alloc (.cells #[zV sv1, zV sv2, zV sv3, zV hh, zV sv5, zV sv6] 23)).alloc (.cells #[zV 0, zV 0, zV 0, zV 0] 26)) = W0 at *
    go_wp2_with fail
    refine Calls.mono (HN.out _) ?_
    rintro e X1 ⟨rfl, hf1⟩
    have HF1 : Hid (Fresh W0 X1) := hf1
    clear hf1 c0 c1 c2 c3 c4 c5 HN
    obtain ⟨hfw, _, hres⟩ := HX.out X1 HF1.out
    have HFZ := show Hid _ from hfw
    have HRS := show Hid _ from hres
    clear hfw hres
    have z0 := (HZ.out X1 HRS.out).1 0 (by omega)
    have z1 := (HZ.out X1 HRS.out).1 1 (by omega)
    have z2 := (HZ.out X1 HRS.out).1 2 (by omega)
    have z3 := (HZ.out X1 HRS.out).1 3 (by omega)
    have zf := (HZ.out X1 HRS.out).2
    clear HZ HX
    go_wp2
    exact ret_ct rfl (w.heap.size + 1) _ _ _ _ rfl (cost_ret HRS.out HFZ.out _ _ _ _).1 rfl rfl cstSize rfl ⟨rfl, (cost_ret HRS.out HFZ.out _ _ _ _).2⟩
  | true =>
    have hout : ¬ (0 ≤ p ∧ p ≤ s.c) := fun h2 => hE (csE_in hb h2)
    have hwi : wiB p 0 s.c = false := by
      cases h : wiB p 0 s.c with
      | false => rfl
      | true => exact absurd ((wiB_iff _ _ _).1 h) hout
    rw [csE_out hb hout]
    rw [shE_ok hb] at HN
    rw [hwi] at HW
    clear hE n0 p0 a0 s0 hb hout hwi
    generalize shN s = nn at *
    unfold Shp.val at *
    obtain ⟨sv1, sv2, sv3, hh, sv5, sv6⟩ := s
    simp only at HN HW HX ⊢
    go_enter Tryd.func6, Tryd.ntmps6
    go_upto_region 1 with fail
    obtain ⟨_, ⟨c0, c1, c2, c3, c4, c5⟩, _⟩ := HX.out _ (Kept.refl _ _)
    generalize ((w.alloc (.cells #[zV sv1, zV sv2, zV sv3, zV hh, zV sv5, zV sv6] 23)).alloc (.cells #[zV 0, zV 0, zV 0, zV 0] 26)) = W0 at *
    go_wp2_with fail
    refine Calls.mono (HN.out _) ?_
    rintro e X1 ⟨rfl, hf1⟩
    have HF1 : Hid (Fresh W0 X1) := hf1
    clear hf1 c0 c1 c2 c3 c4 c5 HN
    go_upto_region 4 with fail
    obtain ⟨hfw, ⟨c0, c1, c2, c3, c4, c5⟩, hres⟩ := HX.out X1 HF1.out
    have HFZ := show Hid _ from hfw
    have HRS := show Hid _ from hres
    clear hfw hres
    go_wp2_with fail
    refine Calls.mono (HW.out _) ?_
    rintro e X2 ⟨rfl, rfl⟩
    clear c0 c1 c2 c3 c4 c5 HW
    have z0 := (HZ.out X2 HRS.out).1 0 (by omega)
    have z1 := (HZ.out X2 HRS.out).1 1 (by omega)
    have z2 := (HZ.out X2 HRS.out).1 2 (by omega)
    have z3 := (HZ.out X2 HRS.out).1 3 (by omega)
    have zf := (HZ.out X2 HRS.out).2
    clear HZ HX
    go_wp2
    exact ret_ct rfl (w.heap.size + 1) _ _ _ _ rfl (cost_ret HRS.out HFZ.out _ _ _ _).1 rfl rfl cstSize rfl ⟨rfl, (cost_ret HRS.out HFZ.out _ _ _ _).2⟩
end Go.Proofs.YtakiimjldccgcabDoor
