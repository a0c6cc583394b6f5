/-
  SoftTurns, where the lists are of one length.
-/
import Derived.Test.YtkolpdfakhlkeaaDoorLSTa
import Derived.Test.YtkolpdfakhlkeaaDoorRgi
import Derived.Test.YtkolpdfakhlkeaaDoorRoiT
namespace Go.Proofs.YtkolpdfakhlkeaaDoor.STurns
open Go.ChangeShapes Go.WideShapes Go.ChangeAt Go.RowKit Go.Lib Go.Maps
/-- What holds in the course of the turning, whichever operations have come up. -/
def StI (w : World) (b1 off1 b2 off2 n k ac cc : Nat) (ws vs : List Int) (M E : Int) (q2 q3 q4 q5 q6 q7 q8 q9 q10 q11 q13 q14 q17 q18 q19 q20 q21 q22 q23 q24 q25 q26 q27 q28 q29 q30 q31 q32 q33 q34 q35 q36 q37 q38 q39 q40 q41 q42 q43 q44 q45 q46 q47 q48 q49 q50 q51 q52 q53 q54 q55 q56 q57 q58 q59 q82 q83 q84 q85 q86 q87 q88 q89 q90 q91 q92 q93 q94 q95 q96 q97 q98 q99 q100 q101 q102 q103 : Value) (l : Array Bool) (a : Act) (X : World) : Prop :=
  ∃ s15 s16 s60 s61 s62 s63 s64 s65 s66 s67 s68 s69 s70 s71 s72 s73 s74 s75 s76 s77 s78 s79 s80 s81 : Value, a = { tmps := #[.slice (some ⟨b1, off1, none⟩) n ac, .slice (some ⟨b2, off2, none⟩) n cc, q2, q3, q4, q5, q6, q7, q8, q9, q10, q11, zV (k : Int), q13, q14, s15, s16, q17, q18, q19, q20, q21, q22, q23, q24, q25, q26, q27, q28, q29, q30, q31, q32, q33, q34, q35, q36, q37, q38, q39, q40, q41, q42, q43, q44, q45, q46, q47, q48, q49, q50, q51, q52, q53, q54, q55, q56, q57, q58, q59, s60, s61, s62, s63, s64, s65, s66, s67, s68, s69, s70, s71, s72, s73, s74, s75, s76, s77, s78, s79, s80, s81, q82, q83, q84, q85, q86, q87, q88, q89, q90, q91, q92, q93, q94, q95, q96, q97, q98, q99, q100, q101, q102, q103], defers := [] } ∧ Fresh w X ∧
    (Up l 0 → ∃ z, s61 = .slice (some z) 0 0) ∧
    (Up l 9 → ∃ z, s70 = .slice (some z) 0 0) ∧
    (Up l 1 → s62 = .slice (some ⟨b1, off1, none⟩) n ac) ∧
    (Up l 2 → s63 = zV (k : Int)) ∧
    (Up l 5 → s66 = .slice (some ⟨b1, off1, none⟩) n ac) ∧
    (Up l 6 → s67 = zV (k : Int)) ∧
    (Up l 10 → s71 = .slice (some ⟨b2, off2, none⟩) n cc) ∧
    (Up l 11 → s72 = zV (k : Int)) ∧
    (Up l 14 → s75 = .slice (some ⟨b2, off2, none⟩) n cc) ∧
    (Up l 15 → s76 = zV (k : Int)) ∧
    (Up l 3 → s64 = .slice (some ⟨b1, off1 + k, none⟩) (n - k) (ac - k)) ∧
    (Up l 7 → s68 = .slice (some ⟨b1, off1, none⟩) k ac) ∧
    (Up l 12 → s73 = .slice (some ⟨b2, off2 + k, none⟩) (n - k) (cc - k)) ∧
    (Up l 16 → s77 = .slice (some ⟨b2, off2, none⟩) k cc) ∧
    (Up l 4 → ¬ Up l 8 → ∃ g c, s65 = .slice (some ⟨g, 0, none⟩) (n - k) c ∧ X.ownsRow w.heap.size 2 1 (.slice (some ⟨g, 0, none⟩) (n - k) c) (n - k) ((ws.drop k).map (Value.int .i64))) ∧
    (Up l 8 → ∃ g c, s69 = .slice (some ⟨g, 0, none⟩) n c ∧ X.ownsRow w.heap.size 2 1 (.slice (some ⟨g, 0, none⟩) n c) n ((rot ws k).map (Value.int .i64))) ∧
    (Up l 13 → ¬ Up l 17 → ∃ g c, s74 = .slice (some ⟨g, 0, none⟩) (n - k) c ∧ X.ownsRow w.heap.size 32 1 (.slice (some ⟨g, 0, none⟩) (n - k) c) (n - k) ((vs.drop k).map (Value.int .i8)) ∧ ∀ g', s69.ownBlock = some g' → g' ≠ g) ∧
    (Up l 17 → ∃ g c, s78 = .slice (some ⟨g, 0, none⟩) n c ∧ X.ownsRow w.heap.size 32 1 (.slice (some ⟨g, 0, none⟩) n c) n ((rot vs k).map (Value.int .i8))) ∧
    (Up l 18 → s79 = .tuple #[.int .i8 M, zV E]) ∧
    (Up l 19 → s60 = .tuple #[.int .i8 M, zV E]) ∧
    (Up l 20 → s80 = .int .i8 M) ∧
    (Up l 21 → s81 = zV E) ∧
    (Up l 22 → s15 = .int .i8 M) ∧
    (Up l 23 → s16 = zV E) ∧
    (Up l 8 → Up l 4) ∧
    (Up l 13 → Up l 8) ∧
    (Up l 17 → Up l 13)

set_option maxHeartbeats 4000000 in
set_option maxRecDepth 100000 in
theorem walk_eq (lv gv : Value) (ws vs : List Int) (turn : Int) (w : World) (hB : Bend w) (_hT : I64 turn) (hl : Rk .i64 (fun b => b < w.heap.size) w lv ws) (hg : Rk .i8 (fun b => b < w.heap.size) w gv vs) (q1 : ws.length = vs.length) (q2 : ws.length ≠ 0) :
    Calls Tryd.prog 8 #[lv, gv, zV turn] w fun e w' => e = .returned (.bool true) ∧ Fresh w w' := by
  have HL : Hid (∀ W, Fresh w W → Bend W ∧ Rk .i64 (fun b => b < w.heap.size) W lv ws ∧ Rk .i8 (fun b => b < w.heap.size) W gv vs) := fun W hF => ⟨hB.fresh hF, hl.fresh hF, hg.fresh hF⟩
  have HAW : Hid (∀ W, Bend W → _) := fun W hW => awake_any W hW
  have H1 : Hid (Unit → _) := fun (_ : Unit) => Mean_any _ _ _ _ _ _ w hl hg
  have HRf : Hid (∀ W, Fresh w W → _) := fun W hF => refMean_any _ _ _ _ _ _ W (HL.out W hF).2.1 (HL.out W hF).2.2
  have hm1 := hl.len
  have hm2 := hg.many
  simp only [kb] at hm1
  obtain ⟨ao, ac, rfl, _, hac⟩ := hl.shape
  obtain ⟨co, cc, rfl, _, hcc⟩ := hg.shape
  obtain ⟨b1, off1, rfl, _, _, _⟩ := hl.cells.2.2.2 (by omega)
  obtain ⟨b2, off2, rfl, _, _, _⟩ := hg.cells.2.2.2 (by omega)
  obtain ⟨r, hr⟩ : ∃ r, turn.tmod (ws.length : Int) = r := ⟨_, rfl⟩
  have hrb := tmod_bounds turn (ws.length : Int) (by omega)
  rw [hr] at hrb
  obtain ⟨r0, r1⟩ := hrb
  obtain ⟨k, hk⟩ : ∃ k : Nat, (r + (ws.length : Int)).tmod (ws.length : Int) = k := ⟨((r + (ws.length : Int)).tmod (ws.length : Int)).toNat, by have := Int.tmod_nonneg (ws.length : Int) (show 0 ≤ r + (ws.length : Int) by omega); omega⟩
  have hkb := tmod_bounds (r + (ws.length : Int)) (ws.length : Int) (by omega)
  rw [hk] at hkb
  have hkn : k < ws.length := by omega
  have HRot : Hid (meE (rot ws k) (rot vs k).length = meE ws vs.length ∧ meV (rot ws k) (rot vs k) = meV ws vs) := me_rot q1 k
  have HA1 : Hid (∀ Z, Fresh w Z → ∀ a0, ∃ v' Y, (Builtin.append_ #[22, 22] 22 #[.slice (some a0) 0 0, .slice (some ⟨b1, off1 + k, none⟩) (ws.length - k) (ac - k)]).run Tryd.prog Z = .ok v' Y ∧ ∃ g c, v' = .slice (some ⟨g, 0, none⟩) (ws.length - k) c ∧ Y.ownsRow w.heap.size 2 1 (.slice (some ⟨g, 0, none⟩) (ws.length - k) c) (ws.length - k) ((ws.drop k).map (Value.int .i64)) ∧ Fresh w Y) := fun Z hZ a0 => by
    have h := app1 ty64 Z a0 _ _ ((HL.out Z hZ).2.1.cut k (ws.length - k) (by omega)) (by intro e; have := congrArg List.length e; simp at this; omega)
    rw [List.take_of_length_le (by simp), List.length_drop] at h
    obtain ⟨v', Y, h1, g, c, h2, h3, _, h4⟩ := h
    exact ⟨v', Y, h1, g, c, h2, own_low h3 hZ.size, hZ.trans h4 (fun _ _ e => e)⟩
  have HA2 : Hid (∀ Z, Fresh w Z → ∀ g c, Z.ownsRow w.heap.size 2 1 (.slice (some ⟨g, 0, none⟩) (ws.length - k) c) (ws.length - k) ((ws.drop k).map (Value.int .i64)) → ∃ v' Y, (Builtin.append_ #[22, 22] 22 #[.slice (some ⟨g, 0, none⟩) (ws.length - k) c, .slice (some ⟨b1, off1, none⟩) k ac]).run Tryd.prog Z = .ok v' Y ∧ ∃ g' c', v' = .slice (some ⟨g', 0, none⟩) ws.length c' ∧ Y.ownsRow w.heap.size 2 1 (.slice (some ⟨g', 0, none⟩) ws.length c') ws.length ((rot ws k).map (Value.int .i64)) ∧ Fresh w Y) := fun Z hZ g c ho => by
    obtain ⟨v', Y, h1, g', c', h2, h3, h4⟩ := app2 ty64 (by simp) ho hZ.size (by omega) ((HL.out Z hZ).2.1.pre k (by omega)) (n := ws.length) (by simp; omega) (by simp only [kb]; omega)
    have hgB := (own_block ho).1
    exact ⟨v', Y, h1, g', c', h2, h3, hZ.trans h4 (fun i hi e => by omega)⟩
  have HB1 : Hid (∀ Z, Fresh w Z → ∀ a0, ∃ v' Y, (Builtin.append_ #[31, 31] 31 #[.slice (some a0) 0 0, .slice (some ⟨b2, off2 + k, none⟩) (ws.length - k) (cc - k)]).run Tryd.prog Z = .ok v' Y ∧ ∃ g c, v' = .slice (some ⟨g, 0, none⟩) (ws.length - k) c ∧ Y.ownsRow w.heap.size 32 1 (.slice (some ⟨g, 0, none⟩) (ws.length - k) c) (ws.length - k) ((vs.drop k).map (Value.int .i8)) ∧ Z.heap.size ≤ g ∧ Fresh Z Y ∧ Fresh w Y) := fun Z hZ a0 => by
    have h := app1 ty8 Z a0 _ _ ((HL.out Z hZ).2.2.cut k (vs.length - k) (by omega)) (by intro e; have := congrArg List.length e; simp at this; omega)
    rw [List.take_of_length_le (by simp), List.length_drop] at h
    rw [q1]
    obtain ⟨v', Y, h1, g, c, h2, h3, h5, h4⟩ := h
    exact ⟨v', Y, h1, g, c, h2, own_low h3 hZ.size, h5, h4, hZ.trans h4 (fun _ _ e => e)⟩
  have HB2 : Hid (∀ Z, Fresh w Z → ∀ g c, Z.ownsRow w.heap.size 32 1 (.slice (some ⟨g, 0, none⟩) (ws.length - k) c) (ws.length - k) ((vs.drop k).map (Value.int .i8)) → ∃ v' Y, (Builtin.append_ #[31, 31] 31 #[.slice (some ⟨g, 0, none⟩) (ws.length - k) c, .slice (some ⟨b2, off2, none⟩) k cc]).run Tryd.prog Z = .ok v' Y ∧ ∃ g' c', v' = .slice (some ⟨g', 0, none⟩) ws.length c' ∧ Y.ownsRow w.heap.size 32 1 (.slice (some ⟨g', 0, none⟩) ws.length c') ws.length ((rot vs k).map (Value.int .i8)) ∧ Kept (fun b => b = g) Z Y ∧ Fresh w Y) := fun Z hZ g c ho => by
    obtain ⟨v', Y, h1, g', c', h2, h3, h4⟩ := app2 ty8 (by simp; omega) ho hZ.size (by omega) ((HL.out Z hZ).2.2.pre k (by omega)) (n := ws.length) (by simp; omega) (by simp only [kb]; omega)
    have hgB := (own_block ho).1
    exact ⟨v', Y, h1, g', c', h2, h3, h4, hZ.trans h4 (fun i hi e => by omega)⟩
  have HMn : Hid (∀ (Y : World) (g1 c1 g2 c2 B1 B2 : Nat), Y.ownsRow B1 2 1 (.slice (some ⟨g1, 0, none⟩) ws.length c1) ws.length ((rot ws k).map (Value.int .i64)) → Y.ownsRow B2 32 1 (.slice (some ⟨g2, 0, none⟩) ws.length c2) ws.length ((rot vs k).map (Value.int .i8)) → Calls Tryd.prog 13 #[.slice (some ⟨g1, 0, none⟩) ws.length c1, .slice (some ⟨g2, 0, none⟩) ws.length c2] Y fun e w' => e = .returned (.tuple #[.int .i8 (meV ws vs), zV (meE ws vs.length)]) ∧ Drew Y w') := fun Y g1 c1 g2 c2 B1 B2 h1 h2 => by
    rw [← HRot.out.1, ← HRot.out.2]
    exact Mean_any _ _ _ _ _ _ Y (rk_of_own h1 (by rw [rot_len]; simp only [kb]; omega) (fun z hz => hl.all z (rot_mem hz))) (rk_of_own h2 (by rw [rot_len]; simp only [kb]; omega) (fun z hz => hg.all z (rot_mem hz)))
  have hs1 := fun W => run_from ty64 (fun W => by kernel_rfl) b1 off1 ws.length ac k hkn hac W
  have hs2 := fun W => run_upTo ty64 (fun W => by kernel_rfl) b1 off1 ws.length ac k (by omega) W
  have hs3 := fun W => run_from ty8 (fun W => by kernel_rfl) b2 off2 ws.length cc k hkn (by omega) W
  have hs4 := fun W => run_upTo ty8 (fun W => by kernel_rfl) b2 off2 ws.length cc k (by omega) W
  have hn0 : (0 : Int) < (ws.length : Int) := by omega
  have hk0 : (0 : Int) ≤ (k : Int) := by omega
  have hk1 : (k : Int) < (ws.length : Int) := by omega
  rw [← q1] at H1 HL HRf HMn hcc hm2 ⊢
  clear hl hg hB HRot q1 q2
  generalize meV ws vs = M at *
  generalize hE : meE ws ws.length = E at *
  clear hE
  generalize ws.length = n at *
  go_enter Tryd.func8, Tryd.ntmps8
  go_wp2_with fail
  refine (H1.out ()).mono ?_
  rintro e w2 ⟨rfl, n2, hw2⟩
  have hF2 : Fresh w w2.drew := by rw [hw2]; exact ((Kept.refl _ _).drewN n2).drew
  clear H1 hw2
  go_upto_region 8 with fail
  go_cut [15, 16] (fun bv fv w' => bv = .int .i8 M ∧ fv = zV E ∧ Hid (Fresh w w'))
  case first =>
    clear HL HRf HAW
    refine region_inv (by kernel_rfl) (StI w b1 off1 b2 off2 n k ac cc ws vs M E (zV turn) undef undef undef (.bool false) (.int .i64 n) undef undef undef undef (.int .i8 M) (zV E) undef undef (.slice (some ⟨b1, off1, none⟩) n ac) (.int .i64 n) (.int .i64 n) (.slice (some ⟨b2, off2, none⟩) n cc) (.int .i64 n) (.bool false) (.bool false) (.int .i64 n) (.bool false) (.bool false) undef undef undef undef undef undef undef undef undef undef undef undef undef undef undef undef undef undef (zV turn) (.int .i64 n) (.int .i64 r) (.int .i64 n) (.int .i64 (r + (n : Int))) (.int .i64 n) (.int .i64 k) (.tuple #[.int .i8 M, zV E]) (.slice (some ⟨b1, off1, none⟩) n ac) (.slice (some ⟨b2, off2, none⟩) n cc) (.tuple #[.int .i8 M, zV E]) (.int .i8 M) (zV E) undef undef undef undef undef undef undef undef undef undef undef undef undef undef undef undef undef undef undef undef undef undef) (by kernel_rfl) ?step ?start ?done
    case start =>
      refine ⟨_, _, _, _, _, _, _, _, _, _, _, _, _, _, _, _, _, _, _, _, _, _, _, _, rfl, hF2, fun u => absurd u (not_up0 _ _), fun u => absurd u (not_up0 _ _), fun u => absurd u (not_up0 _ _), fun u => absurd u (not_up0 _ _), fun u => absurd u (not_up0 _ _), fun u => absurd u (not_up0 _ _), fun u => absurd u (not_up0 _ _), fun u => absurd u (not_up0 _ _), fun u => absurd u (not_up0 _ _), fun u => absurd u (not_up0 _ _), fun u => absurd u (not_up0 _ _), fun u => absurd u (not_up0 _ _), fun u => absurd u (not_up0 _ _), fun u => absurd u (not_up0 _ _), fun u _ => absurd u (not_up0 _ _), fun u => absurd u (not_up0 _ _), fun u _ => absurd u (not_up0 _ _), fun u => absurd u (not_up0 _ _), fun u => absurd u (not_up0 _ _), fun u => absurd u (not_up0 _ _), fun u => absurd u (not_up0 _ _), fun u => absurd u (not_up0 _ _), fun u => absurd u (not_up0 _ _), fun u => absurd u (not_up0 _ _), fun u => absurd u (not_up0 _ _), fun u => absurd u (not_up0 _ _), fun u => absurd u (not_up0 _ _)⟩
    case step =>
      intro l a X hl hI i o ho hlt hn hd K hK
      obtain ⟨s15, s16, s60, s61, s62, s63, s64, s65, s66, s67, s68, s69, s70, s71, s72, s73, s74, s75, s76, s77, s78, s79, s80, s81, rfl, hF, b0, b9, m1, m2, m5, m6, m10, m11, m14, m15, c3, c7, c12, c16, a4, a8, a13, a17, t18, t19, t20, t21, t22, t23, e8, e13, e17⟩ := hI
      have hl : l.size = 24 := hl
      have hlt : i < 24 := hlt
      have hc : i = 0 ∨ i = 1 ∨ i = 2 ∨ i = 3 ∨ i = 4 ∨ i = 5 ∨ i = 6 ∨ i = 7 ∨ i = 8 ∨ i = 9 ∨ i = 10 ∨ i = 11 ∨ i = 12 ∨ i = 13 ∨ i = 14 ∨ i = 15 ∨ i = 16 ∨ i = 17 ∨ i = 18 ∨ i = 19 ∨ i = 20 ∨ i = 21 ∨ i = 22 ∨ i = 23 := by omega
      rcases hc with rfl | rfl | rfl | rfl | rfl | rfl | rfl | rfl | rfl | rfl | rfl | rfl | rfl | rfl | rfl | rfl | rfl | rfl | rfl | rfl | rfl | rfl | rfl | rfl
      · simp only [List.getElem?_toArray, List.getElem?_cons_zero, Option.some.injEq] at ho
        subst ho
        clear hd
        go_simp
        exact hK _ _ ⟨s15, s16, s60, _, s62, s63, s64, s65, s66, s67, s68, s69, s70, s71, s72, s73, s74, s75, s76, s77, s78, s79, s80, s81, rfl, hF.alloc _, fun _ => ⟨_, rfl⟩, fun u => b9 ((up_set_ne (by decide)).1 u), fun u => m1 ((up_set_ne (by decide)).1 u), fun u => m2 ((up_set_ne (by decide)).1 u), fun u => m5 ((up_set_ne (by decide)).1 u), fun u => m6 ((up_set_ne (by decide)).1 u), fun u => m10 ((up_set_ne (by decide)).1 u), fun u => m11 ((up_set_ne (by decide)).1 u), fun u => m14 ((up_set_ne (by decide)).1 u), fun u => m15 ((up_set_ne (by decide)).1 u), fun u => c3 ((up_set_ne (by decide)).1 u), fun u => c7 ((up_set_ne (by decide)).1 u), fun u => c12 ((up_set_ne (by decide)).1 u), fun u => c16 ((up_set_ne (by decide)).1 u), fun u nu => let ⟨g, c, h1, h2⟩ := a4 ((up_set_ne (by decide)).1 u) (fun e => nu ((up_set_ne (by decide)).2 e)); ⟨g, c, h1, owns_kept h2 ((Kept.refl (fun _ => False) X).alloc _) (fun _ _ e => e)⟩, fun u => let ⟨g, c, h1, h2⟩ := a8 ((up_set_ne (by decide)).1 u); ⟨g, c, h1, owns_kept h2 ((Kept.refl (fun _ => False) X).alloc _) (fun _ _ e => e)⟩, fun u nu => let ⟨g, c, h1, h2, h3⟩ := a13 ((up_set_ne (by decide)).1 u) (fun e => nu ((up_set_ne (by decide)).2 e)); ⟨g, c, h1, owns_kept h2 ((Kept.refl (fun _ => False) X).alloc _) (fun _ _ e => e), h3⟩, fun u => let ⟨g, c, h1, h2⟩ := a17 ((up_set_ne (by decide)).1 u); ⟨g, c, h1, owns_kept h2 ((Kept.refl (fun _ => False) X).alloc _) (fun _ _ e => e)⟩, fun u => t18 ((up_set_ne (by decide)).1 u), fun u => t19 ((up_set_ne (by decide)).1 u), fun u => t20 ((up_set_ne (by decide)).1 u), fun u => t21 ((up_set_ne (by decide)).1 u), fun u => t22 ((up_set_ne (by decide)).1 u), fun u => t23 ((up_set_ne (by decide)).1 u), fun u => (up_set_ne (by decide)).2 (e8 ((up_set_ne (by decide)).1 u)), fun u => (up_set_ne (by decide)).2 (e13 ((up_set_ne (by decide)).1 u)), fun u => (up_set_ne (by decide)).2 (e17 ((up_set_ne (by decide)).1 u))⟩
      · simp only [List.getElem?_toArray, List.getElem?_cons_succ, List.getElem?_cons_zero, Option.some.injEq] at ho
        subst ho
        clear hd
        go_simp
        exact hK _ _ ⟨s15, s16, s60, s61, _, s63, s64, s65, s66, s67, s68, s69, s70, s71, s72, s73, s74, s75, s76, s77, s78, s79, s80, s81, rfl, hF, fun u => b0 ((up_set_ne (by decide)).1 u), fun u => b9 ((up_set_ne (by decide)).1 u), fun _ => rfl, fun u => m2 ((up_set_ne (by decide)).1 u), fun u => m5 ((up_set_ne (by decide)).1 u), fun u => m6 ((up_set_ne (by decide)).1 u), fun u => m10 ((up_set_ne (by decide)).1 u), fun u => m11 ((up_set_ne (by decide)).1 u), fun u => m14 ((up_set_ne (by decide)).1 u), fun u => m15 ((up_set_ne (by decide)).1 u), fun u => c3 ((up_set_ne (by decide)).1 u), fun u => c7 ((up_set_ne (by decide)).1 u), fun u => c12 ((up_set_ne (by decide)).1 u), fun u => c16 ((up_set_ne (by decide)).1 u), fun u nu => a4 ((up_set_ne (by decide)).1 u) (fun e => nu ((up_set_ne (by decide)).2 e)), fun u => a8 ((up_set_ne (by decide)).1 u), fun u nu => a13 ((up_set_ne (by decide)).1 u) (fun e => nu ((up_set_ne (by decide)).2 e)), fun u => a17 ((up_set_ne (by decide)).1 u), fun u => t18 ((up_set_ne (by decide)).1 u), fun u => t19 ((up_set_ne (by decide)).1 u), fun u => t20 ((up_set_ne (by decide)).1 u), fun u => t21 ((up_set_ne (by decide)).1 u), fun u => t22 ((up_set_ne (by decide)).1 u), fun u => t23 ((up_set_ne (by decide)).1 u), fun u => (up_set_ne (by decide)).2 (e8 ((up_set_ne (by decide)).1 u)), fun u => (up_set_ne (by decide)).2 (e13 ((up_set_ne (by decide)).1 u)), fun u => (up_set_ne (by decide)).2 (e17 ((up_set_ne (by decide)).1 u))⟩
      · simp only [List.getElem?_toArray, List.getElem?_cons_succ, List.getElem?_cons_zero, Option.some.injEq] at ho
        subst ho
        clear hd
        go_simp
        exact hK _ _ ⟨s15, s16, s60, s61, s62, _, s64, s65, s66, s67, s68, s69, s70, s71, s72, s73, s74, s75, s76, s77, s78, s79, s80, s81, rfl, hF, fun u => b0 ((up_set_ne (by decide)).1 u), fun u => b9 ((up_set_ne (by decide)).1 u), fun u => m1 ((up_set_ne (by decide)).1 u), fun _ => rfl, fun u => m5 ((up_set_ne (by decide)).1 u), fun u => m6 ((up_set_ne (by decide)).1 u), fun u => m10 ((up_set_ne (by decide)).1 u), fun u => m11 ((up_set_ne (by decide)).1 u), fun u => m14 ((up_set_ne (by decide)).1 u), fun u => m15 ((up_set_ne (by decide)).1 u), fun u => c3 ((up_set_ne (by decide)).1 u), fun u => c7 ((up_set_ne (by decide)).1 u), fun u => c12 ((up_set_ne (by decide)).1 u), fun u => c16 ((up_set_ne (by decide)).1 u), fun u nu => a4 ((up_set_ne (by decide)).1 u) (fun e => nu ((up_set_ne (by decide)).2 e)), fun u => a8 ((up_set_ne (by decide)).1 u), fun u nu => a13 ((up_set_ne (by decide)).1 u) (fun e => nu ((up_set_ne (by decide)).2 e)), fun u => a17 ((up_set_ne (by decide)).1 u), fun u => t18 ((up_set_ne (by decide)).1 u), fun u => t19 ((up_set_ne (by decide)).1 u), fun u => t20 ((up_set_ne (by decide)).1 u), fun u => t21 ((up_set_ne (by decide)).1 u), fun u => t22 ((up_set_ne (by decide)).1 u), fun u => t23 ((up_set_ne (by decide)).1 u), fun u => (up_set_ne (by decide)).2 (e8 ((up_set_ne (by decide)).1 u)), fun u => (up_set_ne (by decide)).2 (e13 ((up_set_ne (by decide)).1 u)), fun u => (up_set_ne (by decide)).2 (e17 ((up_set_ne (by decide)).1 u))⟩
      · simp only [List.getElem?_toArray, List.getElem?_cons_succ, List.getElem?_cons_zero, Option.some.injEq] at ho
        subst ho
        simp only [Array.mem_def, List.mem_cons, List.not_mem_nil, or_false, forall_eq_or_imp, forall_eq] at hd
        obtain rfl := m1 (hd.1 rfl)
        obtain rfl := m2 (hd.2 rfl)
        go_simp
        exact hK _ _ ⟨s15, s16, s60, s61, _, _, _, s65, s66, s67, s68, s69, s70, s71, s72, s73, s74, s75, s76, s77, s78, s79, s80, s81, rfl, hF, fun u => b0 ((up_set_ne (by decide)).1 u), fun u => b9 ((up_set_ne (by decide)).1 u), fun u => m1 ((up_set_ne (by decide)).1 u), fun u => m2 ((up_set_ne (by decide)).1 u), fun u => m5 ((up_set_ne (by decide)).1 u), fun u => m6 ((up_set_ne (by decide)).1 u), fun u => m10 ((up_set_ne (by decide)).1 u), fun u => m11 ((up_set_ne (by decide)).1 u), fun u => m14 ((up_set_ne (by decide)).1 u), fun u => m15 ((up_set_ne (by decide)).1 u), fun _ => rfl, fun u => c7 ((up_set_ne (by decide)).1 u), fun u => c12 ((up_set_ne (by decide)).1 u), fun u => c16 ((up_set_ne (by decide)).1 u), fun u nu => a4 ((up_set_ne (by decide)).1 u) (fun e => nu ((up_set_ne (by decide)).2 e)), fun u => a8 ((up_set_ne (by decide)).1 u), fun u nu => a13 ((up_set_ne (by decide)).1 u) (fun e => nu ((up_set_ne (by decide)).2 e)), fun u => a17 ((up_set_ne (by decide)).1 u), fun u => t18 ((up_set_ne (by decide)).1 u), fun u => t19 ((up_set_ne (by decide)).1 u), fun u => t20 ((up_set_ne (by decide)).1 u), fun u => t21 ((up_set_ne (by decide)).1 u), fun u => t22 ((up_set_ne (by decide)).1 u), fun u => t23 ((up_set_ne (by decide)).1 u), fun u => (up_set_ne (by decide)).2 (e8 ((up_set_ne (by decide)).1 u)), fun u => (up_set_ne (by decide)).2 (e13 ((up_set_ne (by decide)).1 u)), fun u => (up_set_ne (by decide)).2 (e17 ((up_set_ne (by decide)).1 u))⟩
      · simp only [List.getElem?_toArray, List.getElem?_cons_succ, List.getElem?_cons_zero, Option.some.injEq] at ho
        subst ho
        simp only [Array.mem_def, List.mem_cons, List.not_mem_nil, or_false, forall_eq_or_imp, forall_eq] at hd
        obtain ⟨z0, rfl⟩ := b0 (hd.1 rfl)
        obtain rfl := c3 (hd.2 rfl)
        refine step_twin rfl _ _ _ _ rfl _ _ rfl (by rfl) _ (HA1.out X hF z0) ?_
        rintro _ Y ⟨ga, ca, rfl, hO, hFY⟩
        exact hK _ _ ⟨s15, s16, s60, _, s62, s63, _, _, s66, s67, s68, s69, s70, s71, s72, s73, s74, s75, s76, s77, s78, s79, s80, s81, rfl, hFY, fun u => b0 ((up_set_ne (by decide)).1 u), fun u => b9 ((up_set_ne (by decide)).1 u), fun u => m1 ((up_set_ne (by decide)).1 u), fun u => m2 ((up_set_ne (by decide)).1 u), fun u => m5 ((up_set_ne (by decide)).1 u), fun u => m6 ((up_set_ne (by decide)).1 u), fun u => m10 ((up_set_ne (by decide)).1 u), fun u => m11 ((up_set_ne (by decide)).1 u), fun u => m14 ((up_set_ne (by decide)).1 u), fun u => m15 ((up_set_ne (by decide)).1 u), fun u => c3 ((up_set_ne (by decide)).1 u), fun u => c7 ((up_set_ne (by decide)).1 u), fun u => c12 ((up_set_ne (by decide)).1 u), fun u => c16 ((up_set_ne (by decide)).1 u), fun _ _ => ⟨_, _, rfl, hO⟩, fun u => absurd (e8 ((up_set_ne (by decide)).1 u)) hn, fun u _ => absurd (e8 (e13 ((up_set_ne (by decide)).1 u))) hn, fun u => absurd (e8 (e13 (e17 ((up_set_ne (by decide)).1 u)))) hn, fun u => t18 ((up_set_ne (by decide)).1 u), fun u => t19 ((up_set_ne (by decide)).1 u), fun u => t20 ((up_set_ne (by decide)).1 u), fun u => t21 ((up_set_ne (by decide)).1 u), fun u => t22 ((up_set_ne (by decide)).1 u), fun u => t23 ((up_set_ne (by decide)).1 u), fun _ => up_set_same (by omega), fun u => (up_set_ne (by decide)).2 (e13 ((up_set_ne (by decide)).1 u)), fun u => (up_set_ne (by decide)).2 (e17 ((up_set_ne (by decide)).1 u))⟩
      · simp only [List.getElem?_toArray, List.getElem?_cons_succ, List.getElem?_cons_zero, Option.some.injEq] at ho
        subst ho
        clear hd
        go_simp
        exact hK _ _ ⟨s15, s16, s60, s61, s62, s63, s64, s65, _, s67, s68, s69, s70, s71, s72, s73, s74, s75, s76, s77, s78, s79, s80, s81, rfl, hF, fun u => b0 ((up_set_ne (by decide)).1 u), fun u => b9 ((up_set_ne (by decide)).1 u), fun u => m1 ((up_set_ne (by decide)).1 u), fun u => m2 ((up_set_ne (by decide)).1 u), fun _ => rfl, fun u => m6 ((up_set_ne (by decide)).1 u), fun u => m10 ((up_set_ne (by decide)).1 u), fun u => m11 ((up_set_ne (by decide)).1 u), fun u => m14 ((up_set_ne (by decide)).1 u), fun u => m15 ((up_set_ne (by decide)).1 u), fun u => c3 ((up_set_ne (by decide)).1 u), fun u => c7 ((up_set_ne (by decide)).1 u), fun u => c12 ((up_set_ne (by decide)).1 u), fun u => c16 ((up_set_ne (by decide)).1 u), fun u nu => a4 ((up_set_ne (by decide)).1 u) (fun e => nu ((up_set_ne (by decide)).2 e)), fun u => a8 ((up_set_ne (by decide)).1 u), fun u nu => a13 ((up_set_ne (by decide)).1 u) (fun e => nu ((up_set_ne (by decide)).2 e)), fun u => a17 ((up_set_ne (by decide)).1 u), fun u => t18 ((up_set_ne (by decide)).1 u), fun u => t19 ((up_set_ne (by decide)).1 u), fun u => t20 ((up_set_ne (by decide)).1 u), fun u => t21 ((up_set_ne (by decide)).1 u), fun u => t22 ((up_set_ne (by decide)).1 u), fun u => t23 ((up_set_ne (by decide)).1 u), fun u => (up_set_ne (by decide)).2 (e8 ((up_set_ne (by decide)).1 u)), fun u => (up_set_ne (by decide)).2 (e13 ((up_set_ne (by decide)).1 u)), fun u => (up_set_ne (by decide)).2 (e17 ((up_set_ne (by decide)).1 u))⟩
      · simp only [List.getElem?_toArray, List.getElem?_cons_succ, List.getElem?_cons_zero, Option.some.injEq] at ho
        subst ho
        clear hd
        go_simp
        exact hK _ _ ⟨s15, s16, s60, s61, s62, s63, s64, s65, s66, _, s68, s69, s70, s71, s72, s73, s74, s75, s76, s77, s78, s79, s80, s81, rfl, hF, fun u => b0 ((up_set_ne (by decide)).1 u), fun u => b9 ((up_set_ne (by decide)).1 u), fun u => m1 ((up_set_ne (by decide)).1 u), fun u => m2 ((up_set_ne (by decide)).1 u), fun u => m5 ((up_set_ne (by decide)).1 u), fun _ => rfl, fun u => m10 ((up_set_ne (by decide)).1 u), fun u => m11 ((up_set_ne (by decide)).1 u), fun u => m14 ((up_set_ne (by decide)).1 u), fun u => m15 ((up_set_ne (by decide)).1 u), fun u => c3 ((up_set_ne (by decide)).1 u), fun u => c7 ((up_set_ne (by decide)).1 u), fun u => c12 ((up_set_ne (by decide)).1 u), fun u => c16 ((up_set_ne (by decide)).1 u), fun u nu => a4 ((up_set_ne (by decide)).1 u) (fun e => nu ((up_set_ne (by decide)).2 e)), fun u => a8 ((up_set_ne (by decide)).1 u), fun u nu => a13 ((up_set_ne (by decide)).1 u) (fun e => nu ((up_set_ne (by decide)).2 e)), fun u => a17 ((up_set_ne (by decide)).1 u), fun u => t18 ((up_set_ne (by decide)).1 u), fun u => t19 ((up_set_ne (by decide)).1 u), fun u => t20 ((up_set_ne (by decide)).1 u), fun u => t21 ((up_set_ne (by decide)).1 u), fun u => t22 ((up_set_ne (by decide)).1 u), fun u => t23 ((up_set_ne (by decide)).1 u), fun u => (up_set_ne (by decide)).2 (e8 ((up_set_ne (by decide)).1 u)), fun u => (up_set_ne (by decide)).2 (e13 ((up_set_ne (by decide)).1 u)), fun u => (up_set_ne (by decide)).2 (e17 ((up_set_ne (by decide)).1 u))⟩
      · simp only [List.getElem?_toArray, List.getElem?_cons_succ, List.getElem?_cons_zero, Option.some.injEq] at ho
        subst ho
        simp only [Array.mem_def, List.mem_cons, List.not_mem_nil, or_false, forall_eq_or_imp, forall_eq] at hd
        obtain rfl := m5 (hd.1 rfl)
        obtain rfl := m6 (hd.2 rfl)
        go_simp
        exact hK _ _ ⟨s15, s16, s60, s61, s62, s63, s64, s65, _, _, _, s69, s70, s71, s72, s73, s74, s75, s76, s77, s78, s79, s80, s81, rfl, hF, fun u => b0 ((up_set_ne (by decide)).1 u), fun u => b9 ((up_set_ne (by decide)).1 u), fun u => m1 ((up_set_ne (by decide)).1 u), fun u => m2 ((up_set_ne (by decide)).1 u), fun u => m5 ((up_set_ne (by decide)).1 u), fun u => m6 ((up_set_ne (by decide)).1 u), fun u => m10 ((up_set_ne (by decide)).1 u), fun u => m11 ((up_set_ne (by decide)).1 u), fun u => m14 ((up_set_ne (by decide)).1 u), fun u => m15 ((up_set_ne (by decide)).1 u), fun u => c3 ((up_set_ne (by decide)).1 u), fun _ => rfl, fun u => c12 ((up_set_ne (by decide)).1 u), fun u => c16 ((up_set_ne (by decide)).1 u), fun u nu => a4 ((up_set_ne (by decide)).1 u) (fun e => nu ((up_set_ne (by decide)).2 e)), fun u => a8 ((up_set_ne (by decide)).1 u), fun u nu => a13 ((up_set_ne (by decide)).1 u) (fun e => nu ((up_set_ne (by decide)).2 e)), fun u => a17 ((up_set_ne (by decide)).1 u), fun u => t18 ((up_set_ne (by decide)).1 u), fun u => t19 ((up_set_ne (by decide)).1 u), fun u => t20 ((up_set_ne (by decide)).1 u), fun u => t21 ((up_set_ne (by decide)).1 u), fun u => t22 ((up_set_ne (by decide)).1 u), fun u => t23 ((up_set_ne (by decide)).1 u), fun u => (up_set_ne (by decide)).2 (e8 ((up_set_ne (by decide)).1 u)), fun u => (up_set_ne (by decide)).2 (e13 ((up_set_ne (by decide)).1 u)), fun u => (up_set_ne (by decide)).2 (e17 ((up_set_ne (by decide)).1 u))⟩
      · simp only [List.getElem?_toArray, List.getElem?_cons_succ, List.getElem?_cons_zero, Option.some.injEq] at ho
        subst ho
        simp only [Array.mem_def, List.mem_cons, List.not_mem_nil, or_false, forall_eq_or_imp, forall_eq] at hd
        obtain ⟨ga, ca, rfl, hO⟩ := a4 (hd.1 rfl) hn
        obtain rfl := c7 (hd.2.1 rfl)
        refine step_twin rfl _ _ _ _ rfl _ _ rfl (by rfl) _ (HA2.out X hF ga ca hO) ?_
        rintro _ Y ⟨gb, cb, rfl, hO2, hFY⟩
        exact hK _ _ ⟨s15, s16, s60, s61, s62, s63, s64, _, s66, s67, _, _, s70, s71, s72, s73, s74, s75, s76, s77, s78, s79, s80, s81, rfl, hFY, fun u => b0 ((up_set_ne (by decide)).1 u), fun u => b9 ((up_set_ne (by decide)).1 u), fun u => m1 ((up_set_ne (by decide)).1 u), fun u => m2 ((up_set_ne (by decide)).1 u), fun u => m5 ((up_set_ne (by decide)).1 u), fun u => m6 ((up_set_ne (by decide)).1 u), fun u => m10 ((up_set_ne (by decide)).1 u), fun u => m11 ((up_set_ne (by decide)).1 u), fun u => m14 ((up_set_ne (by decide)).1 u), fun u => m15 ((up_set_ne (by decide)).1 u), fun u => c3 ((up_set_ne (by decide)).1 u), fun u => c7 ((up_set_ne (by decide)).1 u), fun u => c12 ((up_set_ne (by decide)).1 u), fun u => c16 ((up_set_ne (by decide)).1 u), fun _ nu => absurd (up_set_same (by omega)) nu, fun _ => ⟨_, _, rfl, hO2⟩, fun u _ => absurd (e13 ((up_set_ne (by decide)).1 u)) hn, fun u => absurd (e13 (e17 ((up_set_ne (by decide)).1 u))) hn, fun u => t18 ((up_set_ne (by decide)).1 u), fun u => t19 ((up_set_ne (by decide)).1 u), fun u => t20 ((up_set_ne (by decide)).1 u), fun u => t21 ((up_set_ne (by decide)).1 u), fun u => t22 ((up_set_ne (by decide)).1 u), fun u => t23 ((up_set_ne (by decide)).1 u), fun _ => (up_set_ne (by decide)).2 (hd.1 rfl), fun _ => up_set_same (by omega), fun u => (up_set_ne (by decide)).2 (e17 ((up_set_ne (by decide)).1 u))⟩
      · simp only [List.getElem?_toArray, List.getElem?_cons_succ, List.getElem?_cons_zero, Option.some.injEq] at ho
        subst ho
        clear hd
        go_simp
        exact hK _ _ ⟨s15, s16, s60, s61, s62, s63, s64, s65, s66, s67, s68, s69, _, s71, s72, s73, s74, s75, s76, s77, s78, s79, s80, s81, rfl, hF.alloc _, fun u => b0 ((up_set_ne (by decide)).1 u), fun _ => ⟨_, rfl⟩, fun u => m1 ((up_set_ne (by decide)).1 u), fun u => m2 ((up_set_ne (by decide)).1 u), fun u => m5 ((up_set_ne (by decide)).1 u), fun u => m6 ((up_set_ne (by decide)).1 u), fun u => m10 ((up_set_ne (by decide)).1 u), fun u => m11 ((up_set_ne (by decide)).1 u), fun u => m14 ((up_set_ne (by decide)).1 u), fun u => m15 ((up_set_ne (by decide)).1 u), fun u => c3 ((up_set_ne (by decide)).1 u), fun u => c7 ((up_set_ne (by decide)).1 u), fun u => c12 ((up_set_ne (by decide)).1 u), fun u => c16 ((up_set_ne (by decide)).1 u), fun u nu => let ⟨g, c, h1, h2⟩ := a4 ((up_set_ne (by decide)).1 u) (fun e => nu ((up_set_ne (by decide)).2 e)); ⟨g, c, h1, owns_kept h2 ((Kept.refl (fun _ => False) X).alloc _) (fun _ _ e => e)⟩, fun u => let ⟨g, c, h1, h2⟩ := a8 ((up_set_ne (by decide)).1 u); ⟨g, c, h1, owns_kept h2 ((Kept.refl (fun _ => False) X).alloc _) (fun _ _ e => e)⟩, fun u nu => let ⟨g, c, h1, h2, h3⟩ := a13 ((up_set_ne (by decide)).1 u) (fun e => nu ((up_set_ne (by decide)).2 e)); ⟨g, c, h1, owns_kept h2 ((Kept.refl (fun _ => False) X).alloc _) (fun _ _ e => e), h3⟩, fun u => let ⟨g, c, h1, h2⟩ := a17 ((up_set_ne (by decide)).1 u); ⟨g, c, h1, owns_kept h2 ((Kept.refl (fun _ => False) X).alloc _) (fun _ _ e => e)⟩, fun u => t18 ((up_set_ne (by decide)).1 u), fun u => t19 ((up_set_ne (by decide)).1 u), fun u => t20 ((up_set_ne (by decide)).1 u), fun u => t21 ((up_set_ne (by decide)).1 u), fun u => t22 ((up_set_ne (by decide)).1 u), fun u => t23 ((up_set_ne (by decide)).1 u), fun u => (up_set_ne (by decide)).2 (e8 ((up_set_ne (by decide)).1 u)), fun u => (up_set_ne (by decide)).2 (e13 ((up_set_ne (by decide)).1 u)), fun u => (up_set_ne (by decide)).2 (e17 ((up_set_ne (by decide)).1 u))⟩
      · simp only [List.getElem?_toArray, List.getElem?_cons_succ, List.getElem?_cons_zero, Option.some.injEq] at ho
        subst ho
        clear hd
        go_simp
        exact hK _ _ ⟨s15, s16, s60, s61, s62, s63, s64, s65, s66, s67, s68, s69, s70, _, s72, s73, s74, s75, s76, s77, s78, s79, s80, s81, rfl, hF, fun u => b0 ((up_set_ne (by decide)).1 u), fun u => b9 ((up_set_ne (by decide)).1 u), fun u => m1 ((up_set_ne (by decide)).1 u), fun u => m2 ((up_set_ne (by decide)).1 u), fun u => m5 ((up_set_ne (by decide)).1 u), fun u => m6 ((up_set_ne (by decide)).1 u), fun _ => rfl, fun u => m11 ((up_set_ne (by decide)).1 u), fun u => m14 ((up_set_ne (by decide)).1 u), fun u => m15 ((up_set_ne (by decide)).1 u), fun u => c3 ((up_set_ne (by decide)).1 u), fun u => c7 ((up_set_ne (by decide)).1 u), fun u => c12 ((up_set_ne (by decide)).1 u), fun u => c16 ((up_set_ne (by decide)).1 u), fun u nu => a4 ((up_set_ne (by decide)).1 u) (fun e => nu ((up_set_ne (by decide)).2 e)), fun u => a8 ((up_set_ne (by decide)).1 u), fun u nu => a13 ((up_set_ne (by decide)).1 u) (fun e => nu ((up_set_ne (by decide)).2 e)), fun u => a17 ((up_set_ne (by decide)).1 u), fun u => t18 ((up_set_ne (by decide)).1 u), fun u => t19 ((up_set_ne (by decide)).1 u), fun u => t20 ((up_set_ne (by decide)).1 u), fun u => t21 ((up_set_ne (by decide)).1 u), fun u => t22 ((up_set_ne (by decide)).1 u), fun u => t23 ((up_set_ne (by decide)).1 u), fun u => (up_set_ne (by decide)).2 (e8 ((up_set_ne (by decide)).1 u)), fun u => (up_set_ne (by decide)).2 (e13 ((up_set_ne (by decide)).1 u)), fun u => (up_set_ne (by decide)).2 (e17 ((up_set_ne (by decide)).1 u))⟩
      · simp only [List.getElem?_toArray, List.getElem?_cons_succ, List.getElem?_cons_zero, Option.some.injEq] at ho
        subst ho
        clear hd
        go_simp
        exact hK _ _ ⟨s15, s16, s60, s61, s62, s63, s64, s65, s66, s67, s68, s69, s70, s71, _, s73, s74, s75, s76, s77, s78, s79, s80, s81, rfl, hF, fun u => b0 ((up_set_ne (by decide)).1 u), fun u => b9 ((up_set_ne (by decide)).1 u), fun u => m1 ((up_set_ne (by decide)).1 u), fun u => m2 ((up_set_ne (by decide)).1 u), fun u => m5 ((up_set_ne (by decide)).1 u), fun u => m6 ((up_set_ne (by decide)).1 u), fun u => m10 ((up_set_ne (by decide)).1 u), fun _ => rfl, fun u => m14 ((up_set_ne (by decide)).1 u), fun u => m15 ((up_set_ne (by decide)).1 u), fun u => c3 ((up_set_ne (by decide)).1 u), fun u => c7 ((up_set_ne (by decide)).1 u), fun u => c12 ((up_set_ne (by decide)).1 u), fun u => c16 ((up_set_ne (by decide)).1 u), fun u nu => a4 ((up_set_ne (by decide)).1 u) (fun e => nu ((up_set_ne (by decide)).2 e)), fun u => a8 ((up_set_ne (by decide)).1 u), fun u nu => a13 ((up_set_ne (by decide)).1 u) (fun e => nu ((up_set_ne (by decide)).2 e)), fun u => a17 ((up_set_ne (by decide)).1 u), fun u => t18 ((up_set_ne (by decide)).1 u), fun u => t19 ((up_set_ne (by decide)).1 u), fun u => t20 ((up_set_ne (by decide)).1 u), fun u => t21 ((up_set_ne (by decide)).1 u), fun u => t22 ((up_set_ne (by decide)).1 u), fun u => t23 ((up_set_ne (by decide)).1 u), fun u => (up_set_ne (by decide)).2 (e8 ((up_set_ne (by decide)).1 u)), fun u => (up_set_ne (by decide)).2 (e13 ((up_set_ne (by decide)).1 u)), fun u => (up_set_ne (by decide)).2 (e17 ((up_set_ne (by decide)).1 u))⟩
      · simp only [List.getElem?_toArray, List.getElem?_cons_succ, List.getElem?_cons_zero, Option.some.injEq] at ho
        subst ho
        simp only [Array.mem_def, List.mem_cons, List.not_mem_nil, or_false, forall_eq_or_imp, forall_eq] at hd
        obtain rfl := m10 (hd.1 rfl)
        obtain rfl := m11 (hd.2 rfl)
        go_simp
        exact hK _ _ ⟨s15, s16, s60, s61, s62, s63, s64, s65, s66, s67, s68, s69, s70, _, _, _, s74, s75, s76, s77, s78, s79, s80, s81, rfl, hF, fun u => b0 ((up_set_ne (by decide)).1 u), fun u => b9 ((up_set_ne (by decide)).1 u), fun u => m1 ((up_set_ne (by decide)).1 u), fun u => m2 ((up_set_ne (by decide)).1 u), fun u => m5 ((up_set_ne (by decide)).1 u), fun u => m6 ((up_set_ne (by decide)).1 u), fun u => m10 ((up_set_ne (by decide)).1 u), fun u => m11 ((up_set_ne (by decide)).1 u), fun u => m14 ((up_set_ne (by decide)).1 u), fun u => m15 ((up_set_ne (by decide)).1 u), fun u => c3 ((up_set_ne (by decide)).1 u), fun u => c7 ((up_set_ne (by decide)).1 u), fun _ => rfl, fun u => c16 ((up_set_ne (by decide)).1 u), fun u nu => a4 ((up_set_ne (by decide)).1 u) (fun e => nu ((up_set_ne (by decide)).2 e)), fun u => a8 ((up_set_ne (by decide)).1 u), fun u nu => a13 ((up_set_ne (by decide)).1 u) (fun e => nu ((up_set_ne (by decide)).2 e)), fun u => a17 ((up_set_ne (by decide)).1 u), fun u => t18 ((up_set_ne (by decide)).1 u), fun u => t19 ((up_set_ne (by decide)).1 u), fun u => t20 ((up_set_ne (by decide)).1 u), fun u => t21 ((up_set_ne (by decide)).1 u), fun u => t22 ((up_set_ne (by decide)).1 u), fun u => t23 ((up_set_ne (by decide)).1 u), fun u => (up_set_ne (by decide)).2 (e8 ((up_set_ne (by decide)).1 u)), fun u => (up_set_ne (by decide)).2 (e13 ((up_set_ne (by decide)).1 u)), fun u => (up_set_ne (by decide)).2 (e17 ((up_set_ne (by decide)).1 u))⟩
      · simp only [List.getElem?_toArray, List.getElem?_cons_succ, List.getElem?_cons_zero, Option.some.injEq] at ho
        subst ho
        simp only [Array.mem_def, List.mem_cons, List.not_mem_nil, or_false, forall_eq_or_imp, forall_eq] at hd
        obtain ⟨z0, rfl⟩ := b9 (hd.1 rfl)
        obtain rfl := c12 (hd.2.1 rfl)
        obtain ⟨gb, cb, rfl, hO2⟩ := a8 (hd.2.2 rfl)
        have hlt2 := owns_lt hO2 (g := gb) rfl
        refine step_twin rfl _ _ _ _ rfl _ _ rfl (by rfl) _ (HB1.out X hF z0) ?_
        rintro _ Y ⟨gc, ccc, rfl, hO3, hgC, hFX, hFY⟩
        exact hK _ _ ⟨s15, s16, s60, s61, s62, s63, s64, s65, s66, s67, s68, _, _, s71, s72, _, _, s75, s76, s77, s78, s79, s80, s81, rfl, hFY, fun u => b0 ((up_set_ne (by decide)).1 u), fun u => b9 ((up_set_ne (by decide)).1 u), fun u => m1 ((up_set_ne (by decide)).1 u), fun u => m2 ((up_set_ne (by decide)).1 u), fun u => m5 ((up_set_ne (by decide)).1 u), fun u => m6 ((up_set_ne (by decide)).1 u), fun u => m10 ((up_set_ne (by decide)).1 u), fun u => m11 ((up_set_ne (by decide)).1 u), fun u => m14 ((up_set_ne (by decide)).1 u), fun u => m15 ((up_set_ne (by decide)).1 u), fun u => c3 ((up_set_ne (by decide)).1 u), fun u => c7 ((up_set_ne (by decide)).1 u), fun u => c12 ((up_set_ne (by decide)).1 u), fun u => c16 ((up_set_ne (by decide)).1 u), fun u nu => let ⟨g, c, h1, h2⟩ := a4 ((up_set_ne (by decide)).1 u) (fun e => nu ((up_set_ne (by decide)).2 e)); ⟨g, c, h1, owns_kept h2 (hFX) (fun _ _ e => e)⟩, fun u => let ⟨g, c, h1, h2⟩ := a8 ((up_set_ne (by decide)).1 u); ⟨g, c, h1, owns_kept h2 (hFX) (fun _ _ e => e)⟩, fun _ _ => ⟨_, _, rfl, hO3, fun g' e => by have h7 : gb = g' := (by simpa [Value.ownBlock] using e); omega⟩, fun u => absurd (e17 ((up_set_ne (by decide)).1 u)) hn, fun u => t18 ((up_set_ne (by decide)).1 u), fun u => t19 ((up_set_ne (by decide)).1 u), fun u => t20 ((up_set_ne (by decide)).1 u), fun u => t21 ((up_set_ne (by decide)).1 u), fun u => t22 ((up_set_ne (by decide)).1 u), fun u => t23 ((up_set_ne (by decide)).1 u), fun u => (up_set_ne (by decide)).2 (e8 ((up_set_ne (by decide)).1 u)), fun _ => (up_set_ne (by decide)).2 (hd.2.2 rfl), fun _ => up_set_same (by omega)⟩
      · simp only [List.getElem?_toArray, List.getElem?_cons_succ, List.getElem?_cons_zero, Option.some.injEq] at ho
        subst ho
        clear hd
        go_simp
        exact hK _ _ ⟨s15, s16, s60, s61, s62, s63, s64, s65, s66, s67, s68, s69, s70, s71, s72, s73, s74, _, s76, s77, s78, s79, s80, s81, rfl, hF, fun u => b0 ((up_set_ne (by decide)).1 u), fun u => b9 ((up_set_ne (by decide)).1 u), fun u => m1 ((up_set_ne (by decide)).1 u), fun u => m2 ((up_set_ne (by decide)).1 u), fun u => m5 ((up_set_ne (by decide)).1 u), fun u => m6 ((up_set_ne (by decide)).1 u), fun u => m10 ((up_set_ne (by decide)).1 u), fun u => m11 ((up_set_ne (by decide)).1 u), fun _ => rfl, fun u => m15 ((up_set_ne (by decide)).1 u), fun u => c3 ((up_set_ne (by decide)).1 u), fun u => c7 ((up_set_ne (by decide)).1 u), fun u => c12 ((up_set_ne (by decide)).1 u), fun u => c16 ((up_set_ne (by decide)).1 u), fun u nu => a4 ((up_set_ne (by decide)).1 u) (fun e => nu ((up_set_ne (by decide)).2 e)), fun u => a8 ((up_set_ne (by decide)).1 u), fun u nu => a13 ((up_set_ne (by decide)).1 u) (fun e => nu ((up_set_ne (by decide)).2 e)), fun u => a17 ((up_set_ne (by decide)).1 u), fun u => t18 ((up_set_ne (by decide)).1 u), fun u => t19 ((up_set_ne (by decide)).1 u), fun u => t20 ((up_set_ne (by decide)).1 u), fun u => t21 ((up_set_ne (by decide)).1 u), fun u => t22 ((up_set_ne (by decide)).1 u), fun u => t23 ((up_set_ne (by decide)).1 u), fun u => (up_set_ne (by decide)).2 (e8 ((up_set_ne (by decide)).1 u)), fun u => (up_set_ne (by decide)).2 (e13 ((up_set_ne (by decide)).1 u)), fun u => (up_set_ne (by decide)).2 (e17 ((up_set_ne (by decide)).1 u))⟩
      · simp only [List.getElem?_toArray, List.getElem?_cons_succ, List.getElem?_cons_zero, Option.some.injEq] at ho
        subst ho
        clear hd
        go_simp
        exact hK _ _ ⟨s15, s16, s60, s61, s62, s63, s64, s65, s66, s67, s68, s69, s70, s71, s72, s73, s74, s75, _, s77, s78, s79, s80, s81, rfl, hF, fun u => b0 ((up_set_ne (by decide)).1 u), fun u => b9 ((up_set_ne (by decide)).1 u), fun u => m1 ((up_set_ne (by decide)).1 u), fun u => m2 ((up_set_ne (by decide)).1 u), fun u => m5 ((up_set_ne (by decide)).1 u), fun u => m6 ((up_set_ne (by decide)).1 u), fun u => m10 ((up_set_ne (by decide)).1 u), fun u => m11 ((up_set_ne (by decide)).1 u), fun u => m14 ((up_set_ne (by decide)).1 u), fun _ => rfl, fun u => c3 ((up_set_ne (by decide)).1 u), fun u => c7 ((up_set_ne (by decide)).1 u), fun u => c12 ((up_set_ne (by decide)).1 u), fun u => c16 ((up_set_ne (by decide)).1 u), fun u nu => a4 ((up_set_ne (by decide)).1 u) (fun e => nu ((up_set_ne (by decide)).2 e)), fun u => a8 ((up_set_ne (by decide)).1 u), fun u nu => a13 ((up_set_ne (by decide)).1 u) (fun e => nu ((up_set_ne (by decide)).2 e)), fun u => a17 ((up_set_ne (by decide)).1 u), fun u => t18 ((up_set_ne (by decide)).1 u), fun u => t19 ((up_set_ne (by decide)).1 u), fun u => t20 ((up_set_ne (by decide)).1 u), fun u => t21 ((up_set_ne (by decide)).1 u), fun u => t22 ((up_set_ne (by decide)).1 u), fun u => t23 ((up_set_ne (by decide)).1 u), fun u => (up_set_ne (by decide)).2 (e8 ((up_set_ne (by decide)).1 u)), fun u => (up_set_ne (by decide)).2 (e13 ((up_set_ne (by decide)).1 u)), fun u => (up_set_ne (by decide)).2 (e17 ((up_set_ne (by decide)).1 u))⟩
      · simp only [List.getElem?_toArray, List.getElem?_cons_succ, List.getElem?_cons_zero, Option.some.injEq] at ho
        subst ho
        simp only [Array.mem_def, List.mem_cons, List.not_mem_nil, or_false, forall_eq_or_imp, forall_eq] at hd
        obtain rfl := m14 (hd.1 rfl)
        obtain rfl := m15 (hd.2 rfl)
        go_simp
        exact hK _ _ ⟨s15, s16, s60, s61, s62, s63, s64, s65, s66, s67, s68, s69, s70, s71, s72, s73, s74, _, _, _, s78, s79, s80, s81, rfl, hF, fun u => b0 ((up_set_ne (by decide)).1 u), fun u => b9 ((up_set_ne (by decide)).1 u), fun u => m1 ((up_set_ne (by decide)).1 u), fun u => m2 ((up_set_ne (by decide)).1 u), fun u => m5 ((up_set_ne (by decide)).1 u), fun u => m6 ((up_set_ne (by decide)).1 u), fun u => m10 ((up_set_ne (by decide)).1 u), fun u => m11 ((up_set_ne (by decide)).1 u), fun u => m14 ((up_set_ne (by decide)).1 u), fun u => m15 ((up_set_ne (by decide)).1 u), fun u => c3 ((up_set_ne (by decide)).1 u), fun u => c7 ((up_set_ne (by decide)).1 u), fun u => c12 ((up_set_ne (by decide)).1 u), fun _ => rfl, fun u nu => a4 ((up_set_ne (by decide)).1 u) (fun e => nu ((up_set_ne (by decide)).2 e)), fun u => a8 ((up_set_ne (by decide)).1 u), fun u nu => a13 ((up_set_ne (by decide)).1 u) (fun e => nu ((up_set_ne (by decide)).2 e)), fun u => a17 ((up_set_ne (by decide)).1 u), fun u => t18 ((up_set_ne (by decide)).1 u), fun u => t19 ((up_set_ne (by decide)).1 u), fun u => t20 ((up_set_ne (by decide)).1 u), fun u => t21 ((up_set_ne (by decide)).1 u), fun u => t22 ((up_set_ne (by decide)).1 u), fun u => t23 ((up_set_ne (by decide)).1 u), fun u => (up_set_ne (by decide)).2 (e8 ((up_set_ne (by decide)).1 u)), fun u => (up_set_ne (by decide)).2 (e13 ((up_set_ne (by decide)).1 u)), fun u => (up_set_ne (by decide)).2 (e17 ((up_set_ne (by decide)).1 u))⟩
      · simp only [List.getElem?_toArray, List.getElem?_cons_succ, List.getElem?_cons_zero, Option.some.injEq] at ho
        subst ho
        simp only [Array.mem_def, List.mem_cons, List.not_mem_nil, or_false, forall_eq_or_imp, forall_eq] at hd
        have h13 := hd.1 rfl
        obtain ⟨gc, ccc, rfl, hO3, hne⟩ := a13 h13 hn
        obtain rfl := c16 (hd.2.1 rfl)
        obtain ⟨gb, cb, rfl, hO2⟩ := a8 (e13 h13)
        refine step_twin rfl _ _ _ _ rfl _ _ rfl (by rfl) _ (HB2.out X hF gc ccc hO3) ?_
        rintro _ Y ⟨gd, cd, rfl, hO4, hKD, hFY⟩
        exact hK _ _ ⟨s15, s16, s60, s61, s62, s63, s64, s65, s66, s67, s68, _, s70, s71, s72, s73, _, s75, s76, _, _, s79, s80, s81, rfl, hFY, fun u => b0 ((up_set_ne (by decide)).1 u), fun u => b9 ((up_set_ne (by decide)).1 u), fun u => m1 ((up_set_ne (by decide)).1 u), fun u => m2 ((up_set_ne (by decide)).1 u), fun u => m5 ((up_set_ne (by decide)).1 u), fun u => m6 ((up_set_ne (by decide)).1 u), fun u => m10 ((up_set_ne (by decide)).1 u), fun u => m11 ((up_set_ne (by decide)).1 u), fun u => m14 ((up_set_ne (by decide)).1 u), fun u => m15 ((up_set_ne (by decide)).1 u), fun u => c3 ((up_set_ne (by decide)).1 u), fun u => c7 ((up_set_ne (by decide)).1 u), fun u => c12 ((up_set_ne (by decide)).1 u), fun u => c16 ((up_set_ne (by decide)).1 u), fun u nu => absurd ((up_set_ne (by decide)).2 (e13 h13)) nu, fun _ => ⟨_, _, rfl, owns_kept hO2 hKD (fun g e => hne g e)⟩, fun _ nu => absurd (up_set_same (by omega)) nu, fun _ => ⟨_, _, rfl, hO4⟩, fun u => t18 ((up_set_ne (by decide)).1 u), fun u => t19 ((up_set_ne (by decide)).1 u), fun u => t20 ((up_set_ne (by decide)).1 u), fun u => t21 ((up_set_ne (by decide)).1 u), fun u => t22 ((up_set_ne (by decide)).1 u), fun u => t23 ((up_set_ne (by decide)).1 u), fun u => (up_set_ne (by decide)).2 (e8 ((up_set_ne (by decide)).1 u)), fun u => (up_set_ne (by decide)).2 (e13 ((up_set_ne (by decide)).1 u)), fun _ => (up_set_ne (by decide)).2 (h13)⟩
      · simp only [List.getElem?_toArray, List.getElem?_cons_succ, List.getElem?_cons_zero, Option.some.injEq] at ho
        subst ho
        simp only [Array.mem_def, List.mem_cons, List.not_mem_nil, or_false, forall_eq_or_imp, forall_eq] at hd
        obtain ⟨gb, cb, rfl, hO2⟩ := a8 (hd.1 rfl)
        obtain ⟨gd, cd, rfl, hO4⟩ := a17 (hd.2.1 rfl)
        have HC : Hid (Unit → _) := fun (_ : Unit) => HMn.out X gb cb gd cd _ _ hO2 hO4
        go_simp
        refine (HC.out ()).mono ?_
        rintro e X5 ⟨rfl, d5, rfl⟩
        go_simp
        exact hK _ _ ⟨s15, s16, s60, s61, s62, s63, s64, s65, s66, s67, s68, _, s70, s71, s72, s73, s74, s75, s76, s77, _, _, s80, s81, rfl, hF.drewN d5, fun u => b0 ((up_set_ne (by decide)).1 u), fun u => b9 ((up_set_ne (by decide)).1 u), fun u => m1 ((up_set_ne (by decide)).1 u), fun u => m2 ((up_set_ne (by decide)).1 u), fun u => m5 ((up_set_ne (by decide)).1 u), fun u => m6 ((up_set_ne (by decide)).1 u), fun u => m10 ((up_set_ne (by decide)).1 u), fun u => m11 ((up_set_ne (by decide)).1 u), fun u => m14 ((up_set_ne (by decide)).1 u), fun u => m15 ((up_set_ne (by decide)).1 u), fun u => c3 ((up_set_ne (by decide)).1 u), fun u => c7 ((up_set_ne (by decide)).1 u), fun u => c12 ((up_set_ne (by decide)).1 u), fun u => c16 ((up_set_ne (by decide)).1 u), fun u nu => let ⟨g, c, h1, h2⟩ := a4 ((up_set_ne (by decide)).1 u) (fun e => nu ((up_set_ne (by decide)).2 e)); ⟨g, c, h1, owns_kept h2 ((Kept.refl (fun _ => False) X).drewN d5) (fun _ _ e => e)⟩, fun u => let ⟨g, c, h1, h2⟩ := a8 ((up_set_ne (by decide)).1 u); ⟨g, c, h1, owns_kept h2 ((Kept.refl (fun _ => False) X).drewN d5) (fun _ _ e => e)⟩, fun u nu => let ⟨g, c, h1, h2, h3⟩ := a13 ((up_set_ne (by decide)).1 u) (fun e => nu ((up_set_ne (by decide)).2 e)); ⟨g, c, h1, owns_kept h2 ((Kept.refl (fun _ => False) X).drewN d5) (fun _ _ e => e), h3⟩, fun u => let ⟨g, c, h1, h2⟩ := a17 ((up_set_ne (by decide)).1 u); ⟨g, c, h1, owns_kept h2 ((Kept.refl (fun _ => False) X).drewN d5) (fun _ _ e => e)⟩, fun _ => rfl, fun u => t19 ((up_set_ne (by decide)).1 u), fun u => t20 ((up_set_ne (by decide)).1 u), fun u => t21 ((up_set_ne (by decide)).1 u), fun u => t22 ((up_set_ne (by decide)).1 u), fun u => t23 ((up_set_ne (by decide)).1 u), fun u => (up_set_ne (by decide)).2 (e8 ((up_set_ne (by decide)).1 u)), fun u => (up_set_ne (by decide)).2 (e13 ((up_set_ne (by decide)).1 u)), fun u => (up_set_ne (by decide)).2 (e17 ((up_set_ne (by decide)).1 u))⟩
      · simp only [List.getElem?_toArray, List.getElem?_cons_succ, List.getElem?_cons_zero, Option.some.injEq] at ho
        subst ho
        simp only [Array.mem_def, List.mem_cons, List.not_mem_nil, or_false, forall_eq] at hd
        obtain rfl := t18 (hd rfl)
        go_simp
        exact hK _ _ ⟨s15, s16, _, s61, s62, s63, s64, s65, s66, s67, s68, s69, s70, s71, s72, s73, s74, s75, s76, s77, s78, _, s80, s81, rfl, hF, fun u => b0 ((up_set_ne (by decide)).1 u), fun u => b9 ((up_set_ne (by decide)).1 u), fun u => m1 ((up_set_ne (by decide)).1 u), fun u => m2 ((up_set_ne (by decide)).1 u), fun u => m5 ((up_set_ne (by decide)).1 u), fun u => m6 ((up_set_ne (by decide)).1 u), fun u => m10 ((up_set_ne (by decide)).1 u), fun u => m11 ((up_set_ne (by decide)).1 u), fun u => m14 ((up_set_ne (by decide)).1 u), fun u => m15 ((up_set_ne (by decide)).1 u), fun u => c3 ((up_set_ne (by decide)).1 u), fun u => c7 ((up_set_ne (by decide)).1 u), fun u => c12 ((up_set_ne (by decide)).1 u), fun u => c16 ((up_set_ne (by decide)).1 u), fun u nu => a4 ((up_set_ne (by decide)).1 u) (fun e => nu ((up_set_ne (by decide)).2 e)), fun u => a8 ((up_set_ne (by decide)).1 u), fun u nu => a13 ((up_set_ne (by decide)).1 u) (fun e => nu ((up_set_ne (by decide)).2 e)), fun u => a17 ((up_set_ne (by decide)).1 u), fun u => t18 ((up_set_ne (by decide)).1 u), fun _ => rfl, fun u => t20 ((up_set_ne (by decide)).1 u), fun u => t21 ((up_set_ne (by decide)).1 u), fun u => t22 ((up_set_ne (by decide)).1 u), fun u => t23 ((up_set_ne (by decide)).1 u), fun u => (up_set_ne (by decide)).2 (e8 ((up_set_ne (by decide)).1 u)), fun u => (up_set_ne (by decide)).2 (e13 ((up_set_ne (by decide)).1 u)), fun u => (up_set_ne (by decide)).2 (e17 ((up_set_ne (by decide)).1 u))⟩
      · simp only [List.getElem?_toArray, List.getElem?_cons_succ, List.getElem?_cons_zero, Option.some.injEq] at ho
        subst ho
        simp only [Array.mem_def, List.mem_cons, List.not_mem_nil, or_false, forall_eq] at hd
        obtain rfl := t19 (hd rfl)
        go_simp
        exact hK _ _ ⟨s15, s16, _, s61, s62, s63, s64, s65, s66, s67, s68, s69, s70, s71, s72, s73, s74, s75, s76, s77, s78, s79, _, s81, rfl, hF, fun u => b0 ((up_set_ne (by decide)).1 u), fun u => b9 ((up_set_ne (by decide)).1 u), fun u => m1 ((up_set_ne (by decide)).1 u), fun u => m2 ((up_set_ne (by decide)).1 u), fun u => m5 ((up_set_ne (by decide)).1 u), fun u => m6 ((up_set_ne (by decide)).1 u), fun u => m10 ((up_set_ne (by decide)).1 u), fun u => m11 ((up_set_ne (by decide)).1 u), fun u => m14 ((up_set_ne (by decide)).1 u), fun u => m15 ((up_set_ne (by decide)).1 u), fun u => c3 ((up_set_ne (by decide)).1 u), fun u => c7 ((up_set_ne (by decide)).1 u), fun u => c12 ((up_set_ne (by decide)).1 u), fun u => c16 ((up_set_ne (by decide)).1 u), fun u nu => a4 ((up_set_ne (by decide)).1 u) (fun e => nu ((up_set_ne (by decide)).2 e)), fun u => a8 ((up_set_ne (by decide)).1 u), fun u nu => a13 ((up_set_ne (by decide)).1 u) (fun e => nu ((up_set_ne (by decide)).2 e)), fun u => a17 ((up_set_ne (by decide)).1 u), fun u => t18 ((up_set_ne (by decide)).1 u), fun u => t19 ((up_set_ne (by decide)).1 u), fun _ => rfl, fun u => t21 ((up_set_ne (by decide)).1 u), fun u => t22 ((up_set_ne (by decide)).1 u), fun u => t23 ((up_set_ne (by decide)).1 u), fun u => (up_set_ne (by decide)).2 (e8 ((up_set_ne (by decide)).1 u)), fun u => (up_set_ne (by decide)).2 (e13 ((up_set_ne (by decide)).1 u)), fun u => (up_set_ne (by decide)).2 (e17 ((up_set_ne (by decide)).1 u))⟩
      · simp only [List.getElem?_toArray, List.getElem?_cons_succ, List.getElem?_cons_zero, Option.some.injEq] at ho
        subst ho
        simp only [Array.mem_def, List.mem_cons, List.not_mem_nil, or_false, forall_eq_or_imp, forall_eq] at hd
        obtain rfl := t19 (hd.1 rfl)
        go_simp
        exact hK _ _ ⟨s15, s16, _, s61, s62, s63, s64, s65, s66, s67, s68, s69, s70, s71, s72, s73, s74, s75, s76, s77, s78, s79, s80, _, rfl, hF, fun u => b0 ((up_set_ne (by decide)).1 u), fun u => b9 ((up_set_ne (by decide)).1 u), fun u => m1 ((up_set_ne (by decide)).1 u), fun u => m2 ((up_set_ne (by decide)).1 u), fun u => m5 ((up_set_ne (by decide)).1 u), fun u => m6 ((up_set_ne (by decide)).1 u), fun u => m10 ((up_set_ne (by decide)).1 u), fun u => m11 ((up_set_ne (by decide)).1 u), fun u => m14 ((up_set_ne (by decide)).1 u), fun u => m15 ((up_set_ne (by decide)).1 u), fun u => c3 ((up_set_ne (by decide)).1 u), fun u => c7 ((up_set_ne (by decide)).1 u), fun u => c12 ((up_set_ne (by decide)).1 u), fun u => c16 ((up_set_ne (by decide)).1 u), fun u nu => a4 ((up_set_ne (by decide)).1 u) (fun e => nu ((up_set_ne (by decide)).2 e)), fun u => a8 ((up_set_ne (by decide)).1 u), fun u nu => a13 ((up_set_ne (by decide)).1 u) (fun e => nu ((up_set_ne (by decide)).2 e)), fun u => a17 ((up_set_ne (by decide)).1 u), fun u => t18 ((up_set_ne (by decide)).1 u), fun u => t19 ((up_set_ne (by decide)).1 u), fun u => t20 ((up_set_ne (by decide)).1 u), fun _ => rfl, fun u => t22 ((up_set_ne (by decide)).1 u), fun u => t23 ((up_set_ne (by decide)).1 u), fun u => (up_set_ne (by decide)).2 (e8 ((up_set_ne (by decide)).1 u)), fun u => (up_set_ne (by decide)).2 (e13 ((up_set_ne (by decide)).1 u)), fun u => (up_set_ne (by decide)).2 (e17 ((up_set_ne (by decide)).1 u))⟩
      · simp only [List.getElem?_toArray, List.getElem?_cons_succ, List.getElem?_cons_zero, Option.some.injEq] at ho
        subst ho
        simp only [Array.mem_def, List.mem_cons, List.not_mem_nil, or_false, forall_eq_or_imp, forall_eq] at hd
        obtain rfl := t20 (hd.1 rfl)
        go_simp
        exact hK _ _ ⟨_, s16, s60, s61, s62, s63, s64, s65, s66, s67, s68, s69, s70, s71, s72, s73, s74, s75, s76, s77, s78, s79, _, s81, rfl, hF, fun u => b0 ((up_set_ne (by decide)).1 u), fun u => b9 ((up_set_ne (by decide)).1 u), fun u => m1 ((up_set_ne (by decide)).1 u), fun u => m2 ((up_set_ne (by decide)).1 u), fun u => m5 ((up_set_ne (by decide)).1 u), fun u => m6 ((up_set_ne (by decide)).1 u), fun u => m10 ((up_set_ne (by decide)).1 u), fun u => m11 ((up_set_ne (by decide)).1 u), fun u => m14 ((up_set_ne (by decide)).1 u), fun u => m15 ((up_set_ne (by decide)).1 u), fun u => c3 ((up_set_ne (by decide)).1 u), fun u => c7 ((up_set_ne (by decide)).1 u), fun u => c12 ((up_set_ne (by decide)).1 u), fun u => c16 ((up_set_ne (by decide)).1 u), fun u nu => a4 ((up_set_ne (by decide)).1 u) (fun e => nu ((up_set_ne (by decide)).2 e)), fun u => a8 ((up_set_ne (by decide)).1 u), fun u nu => a13 ((up_set_ne (by decide)).1 u) (fun e => nu ((up_set_ne (by decide)).2 e)), fun u => a17 ((up_set_ne (by decide)).1 u), fun u => t18 ((up_set_ne (by decide)).1 u), fun u => t19 ((up_set_ne (by decide)).1 u), fun u => t20 ((up_set_ne (by decide)).1 u), fun u => t21 ((up_set_ne (by decide)).1 u), fun _ => rfl, fun u => t23 ((up_set_ne (by decide)).1 u), fun u => (up_set_ne (by decide)).2 (e8 ((up_set_ne (by decide)).1 u)), fun u => (up_set_ne (by decide)).2 (e13 ((up_set_ne (by decide)).1 u)), fun u => (up_set_ne (by decide)).2 (e17 ((up_set_ne (by decide)).1 u))⟩
      · simp only [List.getElem?_toArray, List.getElem?_cons_succ, List.getElem?_cons_zero, Option.some.injEq] at ho
        subst ho
        simp only [Array.mem_def, List.mem_cons, List.not_mem_nil, or_false, forall_eq_or_imp, forall_eq] at hd
        obtain rfl := t21 (hd.1 rfl)
        go_simp
        exact hK _ _ ⟨s15, _, s60, s61, s62, s63, s64, s65, s66, s67, s68, s69, s70, s71, s72, s73, s74, s75, s76, s77, s78, s79, s80, _, rfl, hF, fun u => b0 ((up_set_ne (by decide)).1 u), fun u => b9 ((up_set_ne (by decide)).1 u), fun u => m1 ((up_set_ne (by decide)).1 u), fun u => m2 ((up_set_ne (by decide)).1 u), fun u => m5 ((up_set_ne (by decide)).1 u), fun u => m6 ((up_set_ne (by decide)).1 u), fun u => m10 ((up_set_ne (by decide)).1 u), fun u => m11 ((up_set_ne (by decide)).1 u), fun u => m14 ((up_set_ne (by decide)).1 u), fun u => m15 ((up_set_ne (by decide)).1 u), fun u => c3 ((up_set_ne (by decide)).1 u), fun u => c7 ((up_set_ne (by decide)).1 u), fun u => c12 ((up_set_ne (by decide)).1 u), fun u => c16 ((up_set_ne (by decide)).1 u), fun u nu => a4 ((up_set_ne (by decide)).1 u) (fun e => nu ((up_set_ne (by decide)).2 e)), fun u => a8 ((up_set_ne (by decide)).1 u), fun u nu => a13 ((up_set_ne (by decide)).1 u) (fun e => nu ((up_set_ne (by decide)).2 e)), fun u => a17 ((up_set_ne (by decide)).1 u), fun u => t18 ((up_set_ne (by decide)).1 u), fun u => t19 ((up_set_ne (by decide)).1 u), fun u => t20 ((up_set_ne (by decide)).1 u), fun u => t21 ((up_set_ne (by decide)).1 u), fun u => t22 ((up_set_ne (by decide)).1 u), fun _ => rfl, fun u => (up_set_ne (by decide)).2 (e8 ((up_set_ne (by decide)).1 u)), fun u => (up_set_ne (by decide)).2 (e13 ((up_set_ne (by decide)).1 u)), fun u => (up_set_ne (by decide)).2 (e17 ((up_set_ne (by decide)).1 u))⟩
    case done =>
      intro l a X hI hU
      obtain ⟨s15, s16, s60, s61, s62, s63, s64, s65, s66, s67, s68, s69, s70, s71, s72, s73, s74, s75, s76, s77, s78, s79, s80, s81, rfl, hF, b0, b9, m1, m2, m5, m6, m10, m11, m14, m15, c3, c7, c12, c16, a4, a8, a13, a17, t18, t19, t20, t21, t22, t23, e8, e13, e17⟩ := hI
      have hU : ∀ i, i < 24 → Up l i := hU
      obtain rfl := t22 (hU 22 (by omega))
      obtain rfl := t23 (hU 23 (by omega))
      have HX : Hid (Fresh w X) := hF
      clear b0 b9 m1 m2 m5 m6 m10 m11 m14 m15 c3 c7 c12 c16 a4 a8 a13 a17 t18 t19 t20 t21 t22 t23 e8 e13 e17 hF hU hF2
      go_wp2
      go_meet
      case rel => exact ⟨rfl, rfl, HX.out⟩
  case rest =>
    obtain ⟨rfl, rfl, HC⟩ := hcut
    clear HA1 HA2 HB1 HB2 HMn hs1 hs2 hs3 hs4 hF2
    have H3 : Hid (Unit → _) := fun (_ : Unit) => HRf.out wc HC.out
    go_wp2_with fail
    refine (H3.out ()).mono ?_
    rintro e w3 ⟨rfl, n3, hw3⟩
    have HF3 : Hid (Fresh w w3) := by show Fresh _ _; rw [hw3]; exact HC.out.drewN n3
    have HAw : Hid (Unit → _) := fun (_ : Unit) => HAW.out w3 (HL.out w3 HF3.out).1
    clear H3 hw3 HC HAW HL HRf
    go_wp2_with fail
    refine (HAw.out ()).mono ?_
    rintro e w4 ⟨rfl, hF4⟩
    have HF4 : Hid (Fresh w w4) := HF3.out.trans hF4 (fun _ _ e => e)
    clear hF4 HF3 HAw
    go_wp2
    go_ret
    exact ⟨by simp, HF4.out⟩

end Go.Proofs.YtkolpdfakhlkeaaDoor.STurns
