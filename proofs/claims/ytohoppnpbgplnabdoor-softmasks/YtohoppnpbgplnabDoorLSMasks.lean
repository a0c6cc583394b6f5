/-
  For every list of scores, every list of numbers and every Case the statement SoftMasks answers true: awake does; Masked, Sloped, Mix and Best are the document's; its card, tied to the program's text.
-/
import Derived.Test.YtohoppnpbgplnabDoorSfi
import Derived.Test.YtohoppnpbgplnabDoorSfk
import Derived.Test.YtohoppnpbgplnabDoorSfp
import Derived.Test.YtohoppnpbgplnabDoorSfu
import Derived.Test.YtohoppnpbgplnabDoorSfw
import Derived.Test.YtohoppnpbgplnabDoorSfv
namespace Go.Proofs.YtohoppnpbgplnabDoor.SMasks
open Go.ChangeShapes Go.WideShapes Go.ChangeAt Go.RowKit Go.Lib Go.Maps

abbrev R6 (W : World) (v : Value) (L : List Int) : Prop := Rk .i64 (fun _ => True) W v L
theorem gr {L : List Int} {E : Int} {w w' : World} {x : Ending} (h : Gives .i64 2 L E w x w') (hl : L.length ≤ 512) (hz : ∀ z ∈ L, Fit .i64 z) : ∃ v, x = .returned (.tuple #[v, zV E]) ∧ R6 w' v L ∧ Fresh w w' := by
  obtain ⟨v, h1, h2, h3⟩ := h.row (room64 hl) hz
  exact ⟨v, h1, h2.mono (fun _ _ => trivial), h3⟩

set_option maxHeartbeats 16000000 in
set_option maxRecDepth 100000 in
theorem walk (lv gv mv : Value) (zs vs : List Int) (mk : List Bool) (s pt : Int) (w : World) (hB : Bend w) (hl : Rk .i64 (fun b => b < w.heap.size) w lv zs) (hg : Rk .i8 (fun b => b < w.heap.size) w gv vs) (hm : Rb (fun b => b < w.heap.size) w mv mk) (hs : I64 s) (hpt : I64 pt) :
    Calls Tryd.prog 4 #[lv, gv, .agg #[mv, zV s, zV pt]] w fun e w' => e = .returned (.bool true) ∧ Fresh w w' := by
  obtain ⟨w0, hw0⟩ : ∃ w0, w0 = w.alloc (.cells #[mv, zV s, zV pt] 42) := ⟨_, rfl⟩
  have hF0 : Fresh w w0 := by rw [hw0]; exact (Kept.refl _ w).alloc _
  have p1 : w0.heap[w.heap.size]? = some (.cells #[mv, zV s, zV pt] 42 (0, 0)) := by rw [hw0]; exact heap_alloc_new w _
  have HP : Hid (∀ W, Fresh w0 W → (W.cell? ⟨w.heap.size, 0, none⟩ = some mv ∧ W.cell? ⟨w.heap.size, 1, none⟩ = some (zV s) ∧ W.cell? ⟨w.heap.size, 2, none⟩ = some (zV pt)) ∧ Bend W ∧ Rk .i64 (fun b => b < w.heap.size) W lv zs ∧ Rk .i8 (fun b => b < w.heap.size) W gv vs ∧ Rb (fun b => b < w.heap.size) W mv mk) := fun W hF => by
    have q1 := hF.at p1 (fun e => e)
    have hF2 := hF0.trans hF (fun _ _ e => e)
    exact ⟨⟨by rw [Lib.cell_of_heap q1]; rfl, by rw [Lib.cell_of_heap q1]; rfl, by rw [Lib.cell_of_heap q1]; rfl⟩, hB.fresh hF2, hl.fresh hF2, hg.fresh hF2, hm.fresh hF2⟩
  have HF00 : Hid (Fresh w w0) := hF0
  have HI : Hid (I64 s ∧ I64 pt) := ⟨hs, hpt⟩
  have hW0 := hw0.symm
  obtain ⟨lo, lc, rfl, _⟩ := hl.shape
  obtain ⟨go, gc, rfl, _⟩ := hg.shape
  obtain ⟨mo, mc, rfl⟩ := hm.shape
  have HF0 : Hid (Fresh w0 w0) := Kept.refl _ _
  obtain ⟨a0, a1, a2⟩ := (HP.out w0 (Kept.refl _ _)).1
  clear hB hl hg hm hs hpt hw0 hF0 p1
  go_enter Tryd.func4, Tryd.ntmps4
  have H1 : Hid (Unit → _) := fun (_ : Unit) => Masked_any _ _ _ _ zs mk w0 (HP.out w0 HF0.out).2.1 (HP.out w0 HF0.out).2.2.1 (HP.out w0 HF0.out).2.2.2.2
  go_wp2_with fail
  try rw [hW0]
  refine (H1.out ()).mono ?_
  rintro e w1 hG
  obtain ⟨v1, rfl, hR1, hF1⟩ := gr hG (maL_len _ _) (maL_fit _ _)
  have HF1 : Hid (Fresh w0 w1) := HF0.out.trans hF1 (fun _ _ e => e)
  have HR1 : Hid (∀ W, Fresh w1 W → R6 W v1 (maL zs mk)) := fun W hF => hR1.fresh hF
  clear H1 hG hR1 hF1 a0 a1 a2 hW0
  have H2 : Hid (Unit → _) := fun (_ : Unit) => refMasked_any _ _ _ _ zs mk w1 (HP.out w1 HF1.out).2.2.1 (HP.out w1 HF1.out).2.2.2.2
  obtain ⟨a0, a1, a2⟩ := (HP.out w1 HF1.out).1
  go_wp2_with fail
  refine (H2.out ()).mono ?_
  rintro e w2 hG
  obtain ⟨v2, rfl, hR2, hF2⟩ := gr hG (maL_len _ _) (maL_fit _ _)
  have HF2 : Hid (Fresh w0 w2) := HF1.out.trans hF2 (fun _ _ e => e)
  have HR2 : Hid (∀ W, Fresh w2 W → R6 W v2 (maL zs mk)) := fun W hF => hR2.fresh hF
  have HR1 : Hid (∀ W, Fresh w2 W → R6 W v1 (maL zs mk)) := fun W hF => HR1.out W (hF2.trans hF (fun _ _ e => e))
  clear H2 hG hR2 hF2 a0 a1 a2
  have H3 : Hid (Unit → _) := fun (_ : Unit) => Sloped_any _ _ zs s w2 (HP.out w2 HF2.out).2.1 (HP.out w2 HF2.out).2.2.1 HI.out.1
  obtain ⟨a0, a1, a2⟩ := (HP.out w2 HF2.out).1
  go_wp2_with fail
  refine (H3.out ()).mono ?_
  rintro e w3 hG
  obtain ⟨v3, rfl, hR3, hF3⟩ := gr hG (soL_len _ _) (soL_fit _ _)
  have HF3 : Hid (Fresh w0 w3) := HF2.out.trans hF3 (fun _ _ e => e)
  have HR3 : Hid (∀ W, Fresh w3 W → R6 W v3 (soL zs s)) := fun W hF => hR3.fresh hF
  have HR1 : Hid (∀ W, Fresh w3 W → R6 W v1 (maL zs mk)) := fun W hF => HR1.out W (hF3.trans hF (fun _ _ e => e))
  have HR2 : Hid (∀ W, Fresh w3 W → R6 W v2 (maL zs mk)) := fun W hF => HR2.out W (hF3.trans hF (fun _ _ e => e))
  clear H3 hG hR3 hF3 a0 a1 a2
  have H4 : Hid (Unit → _) := fun (_ : Unit) => refSloped_any _ _ zs s w3 (HP.out w3 HF3.out).2.2.1 HI.out.1
  obtain ⟨a0, a1, a2⟩ := (HP.out w3 HF3.out).1
  go_wp2_with fail
  refine (H4.out ()).mono ?_
  rintro e w4 hG
  obtain ⟨v4, rfl, hR4, hF4⟩ := gr hG (soL_len _ _) (soL_fit _ _)
  have HF4 : Hid (Fresh w0 w4) := HF3.out.trans hF4 (fun _ _ e => e)
  have HR4 : Hid (∀ W, Fresh w4 W → R6 W v4 (soL zs s)) := fun W hF => hR4.fresh hF
  have HR1 : Hid (∀ W, Fresh w4 W → R6 W v1 (maL zs mk)) := fun W hF => HR1.out W (hF4.trans hF (fun _ _ e => e))
  have HR2 : Hid (∀ W, Fresh w4 W → R6 W v2 (maL zs mk)) := fun W hF => HR2.out W (hF4.trans hF (fun _ _ e => e))
  have HR3 : Hid (∀ W, Fresh w4 W → R6 W v3 (soL zs s)) := fun W hF => HR3.out W (hF4.trans hF (fun _ _ e => e))
  clear H4 hG hR4 hF4 a0 a1 a2
  have H5 : Hid (Unit → _) := fun (_ : Unit) => refWeights_any _ _ zs w4 (HP.out w4 HF4.out).2.2.1
  obtain ⟨a0, a1, a2⟩ := (HP.out w4 HF4.out).1
  go_wp2_with fail
  refine (H5.out ()).mono ?_
  rintro e w5 hG
  obtain ⟨v5, rfl, hR5, hF5⟩ := gr hG (woL_len _) (woL_fit _)
  have HF5 : Hid (Fresh w0 w5) := HF4.out.trans hF5 (fun _ _ e => e)
  have HR5 : Hid (∀ W, Fresh w5 W → R6 W v5 (woL zs)) := fun W hF => hR5.fresh hF
  have HR1 : Hid (∀ W, Fresh w5 W → R6 W v1 (maL zs mk)) := fun W hF => HR1.out W (hF5.trans hF (fun _ _ e => e))
  have HR2 : Hid (∀ W, Fresh w5 W → R6 W v2 (maL zs mk)) := fun W hF => HR2.out W (hF5.trans hF (fun _ _ e => e))
  have HR3 : Hid (∀ W, Fresh w5 W → R6 W v3 (soL zs s)) := fun W hF => HR3.out W (hF5.trans hF (fun _ _ e => e))
  have HR4 : Hid (∀ W, Fresh w5 W → R6 W v4 (soL zs s)) := fun W hF => HR4.out W (hF5.trans hF (fun _ _ e => e))
  clear H5 hG hR5 hF5 a0 a1 a2
  have H6 : Hid (Unit → _) := fun (_ : Unit) => Mix_any _ _ _ _ (woL zs) (maL zs mk) pt w5 (HR5.out w5 (Kept.refl _ _)) (HR2.out w5 (Kept.refl _ _)) HI.out.2
  obtain ⟨a0, a1, a2⟩ := (HP.out w5 HF5.out).1
  go_wp2_with fail
  refine (H6.out ()).mono ?_
  rintro e w6 hG
  obtain ⟨v6, rfl, hR6, hF6⟩ := gr hG (miL_len _ _ _) (miL_fit _ _ _)
  have HF6 : Hid (Fresh w0 w6) := HF5.out.trans hF6 (fun _ _ e => e)
  have HR6 : Hid (∀ W, Fresh w6 W → R6 W v6 (miL (woL zs) (maL zs mk) pt)) := fun W hF => hR6.fresh hF
  have HR1 : Hid (∀ W, Fresh w6 W → R6 W v1 (maL zs mk)) := fun W hF => HR1.out W (hF6.trans hF (fun _ _ e => e))
  have HR2 : Hid (∀ W, Fresh w6 W → R6 W v2 (maL zs mk)) := fun W hF => HR2.out W (hF6.trans hF (fun _ _ e => e))
  have HR3 : Hid (∀ W, Fresh w6 W → R6 W v3 (soL zs s)) := fun W hF => HR3.out W (hF6.trans hF (fun _ _ e => e))
  have HR4 : Hid (∀ W, Fresh w6 W → R6 W v4 (soL zs s)) := fun W hF => HR4.out W (hF6.trans hF (fun _ _ e => e))
  have HR5 : Hid (∀ W, Fresh w6 W → R6 W v5 (woL zs)) := fun W hF => HR5.out W (hF6.trans hF (fun _ _ e => e))
  clear H6 hG hR6 hF6 a0 a1 a2
  have H7 : Hid (Unit → _) := fun (_ : Unit) => refMix_any _ _ _ _ (woL zs) (maL zs mk) pt w6 (HR5.out w6 (Kept.refl _ _)) (HR2.out w6 (Kept.refl _ _)) HI.out.2
  obtain ⟨a0, a1, a2⟩ := (HP.out w6 HF6.out).1
  go_wp2_with fail
  refine (H7.out ()).mono ?_
  rintro e w7 hG
  obtain ⟨v7, rfl, hR7, hF7⟩ := gr hG (miL_len _ _ _) (miL_fit _ _ _)
  have HF7 : Hid (Fresh w0 w7) := HF6.out.trans hF7 (fun _ _ e => e)
  have HR7 : Hid (∀ W, Fresh w7 W → R6 W v7 (miL (woL zs) (maL zs mk) pt)) := fun W hF => hR7.fresh hF
  have HR1 : Hid (∀ W, Fresh w7 W → R6 W v1 (maL zs mk)) := fun W hF => HR1.out W (hF7.trans hF (fun _ _ e => e))
  have HR2 : Hid (∀ W, Fresh w7 W → R6 W v2 (maL zs mk)) := fun W hF => HR2.out W (hF7.trans hF (fun _ _ e => e))
  have HR3 : Hid (∀ W, Fresh w7 W → R6 W v3 (soL zs s)) := fun W hF => HR3.out W (hF7.trans hF (fun _ _ e => e))
  have HR4 : Hid (∀ W, Fresh w7 W → R6 W v4 (soL zs s)) := fun W hF => HR4.out W (hF7.trans hF (fun _ _ e => e))
  have HR5 : Hid (∀ W, Fresh w7 W → R6 W v5 (woL zs)) := fun W hF => HR5.out W (hF7.trans hF (fun _ _ e => e))
  have HR6 : Hid (∀ W, Fresh w7 W → R6 W v6 (miL (woL zs) (maL zs mk) pt)) := fun W hF => HR6.out W (hF7.trans hF (fun _ _ e => e))
  clear H7 hG hR7 hF7 a0 a1 a2
  have H8 : Hid (Unit → _) := fun (_ : Unit) => Best_any _ _ _ _ (woL zs) vs w7 (HR5.out w7 (Kept.refl _ _)) (HP.out w7 HF7.out).2.2.2.1
  obtain ⟨a0, a1, a2⟩ := (HP.out w7 HF7.out).1
  go_wp2_with fail
  refine (H8.out ()).mono ?_
  rintro e w8 ⟨rfl, d8, hd8⟩
  have hF8 : Fresh w7 w8 := by rw [hd8]; exact kept_drewN _ _ _
  have HF8 : Hid (Fresh w0 w8) := HF7.out.trans hF8 (fun _ _ e => e)
  have HR1 : Hid (∀ W, Fresh w8 W → R6 W v1 (maL zs mk)) := fun W hF => HR1.out W (hF8.trans hF (fun _ _ e => e))
  have HR2 : Hid (∀ W, Fresh w8 W → R6 W v2 (maL zs mk)) := fun W hF => HR2.out W (hF8.trans hF (fun _ _ e => e))
  have HR3 : Hid (∀ W, Fresh w8 W → R6 W v3 (soL zs s)) := fun W hF => HR3.out W (hF8.trans hF (fun _ _ e => e))
  have HR4 : Hid (∀ W, Fresh w8 W → R6 W v4 (soL zs s)) := fun W hF => HR4.out W (hF8.trans hF (fun _ _ e => e))
  have HR5 : Hid (∀ W, Fresh w8 W → R6 W v5 (woL zs)) := fun W hF => HR5.out W (hF8.trans hF (fun _ _ e => e))
  have HR6 : Hid (∀ W, Fresh w8 W → R6 W v6 (miL (woL zs) (maL zs mk) pt)) := fun W hF => HR6.out W (hF8.trans hF (fun _ _ e => e))
  have HR7 : Hid (∀ W, Fresh w8 W → R6 W v7 (miL (woL zs) (maL zs mk) pt)) := fun W hF => HR7.out W (hF8.trans hF (fun _ _ e => e))
  clear H8 hd8 hF8 a0 a1 a2
  have H9 : Hid (Unit → _) := fun (_ : Unit) => refBest_any _ _ _ _ (woL zs) vs w8 (HR5.out w8 (Kept.refl _ _)) (HP.out w8 HF8.out).2.2.2.1
  obtain ⟨a0, a1, a2⟩ := (HP.out w8 HF8.out).1
  go_wp2_with fail
  refine (H9.out ()).mono ?_
  rintro e w9 ⟨rfl, d9, hd9⟩
  have hF9 : Fresh w8 w9 := by rw [hd9]; exact kept_drewN _ _ _
  have HF9 : Hid (Fresh w0 w9) := HF8.out.trans hF9 (fun _ _ e => e)
  have HR1 : Hid (∀ W, Fresh w9 W → R6 W v1 (maL zs mk)) := fun W hF => HR1.out W (hF9.trans hF (fun _ _ e => e))
  have HR2 : Hid (∀ W, Fresh w9 W → R6 W v2 (maL zs mk)) := fun W hF => HR2.out W (hF9.trans hF (fun _ _ e => e))
  have HR3 : Hid (∀ W, Fresh w9 W → R6 W v3 (soL zs s)) := fun W hF => HR3.out W (hF9.trans hF (fun _ _ e => e))
  have HR4 : Hid (∀ W, Fresh w9 W → R6 W v4 (soL zs s)) := fun W hF => HR4.out W (hF9.trans hF (fun _ _ e => e))
  have HR5 : Hid (∀ W, Fresh w9 W → R6 W v5 (woL zs)) := fun W hF => HR5.out W (hF9.trans hF (fun _ _ e => e))
  have HR6 : Hid (∀ W, Fresh w9 W → R6 W v6 (miL (woL zs) (maL zs mk) pt)) := fun W hF => HR6.out W (hF9.trans hF (fun _ _ e => e))
  have HR7 : Hid (∀ W, Fresh w9 W → R6 W v7 (miL (woL zs) (maL zs mk) pt)) := fun W hF => HR7.out W (hF9.trans hF (fun _ _ e => e))
  clear H9 hd9 hF9 a0 a1 a2
  have H10 : Hid (Unit → _) := fun (_ : Unit) => Mix_any _ _ _ _ zs zs pt w9 (HP.out w9 HF9.out).2.2.1 (HP.out w9 HF9.out).2.2.1 HI.out.2
  obtain ⟨a0, a1, a2⟩ := (HP.out w9 HF9.out).1
  go_wp2_with fail
  refine (H10.out ()).mono ?_
  rintro e w10 hG
  obtain ⟨v10, rfl, hR10, hF10⟩ := gr hG (miL_len _ _ _) (miL_fit _ _ _)
  have HF10 : Hid (Fresh w0 w10) := HF9.out.trans hF10 (fun _ _ e => e)
  have HR10 : Hid (∀ W, Fresh w10 W → R6 W v10 (miL zs zs pt)) := fun W hF => hR10.fresh hF
  have HR1 : Hid (∀ W, Fresh w10 W → R6 W v1 (maL zs mk)) := fun W hF => HR1.out W (hF10.trans hF (fun _ _ e => e))
  have HR2 : Hid (∀ W, Fresh w10 W → R6 W v2 (maL zs mk)) := fun W hF => HR2.out W (hF10.trans hF (fun _ _ e => e))
  have HR3 : Hid (∀ W, Fresh w10 W → R6 W v3 (soL zs s)) := fun W hF => HR3.out W (hF10.trans hF (fun _ _ e => e))
  have HR4 : Hid (∀ W, Fresh w10 W → R6 W v4 (soL zs s)) := fun W hF => HR4.out W (hF10.trans hF (fun _ _ e => e))
  have HR5 : Hid (∀ W, Fresh w10 W → R6 W v5 (woL zs)) := fun W hF => HR5.out W (hF10.trans hF (fun _ _ e => e))
  have HR6 : Hid (∀ W, Fresh w10 W → R6 W v6 (miL (woL zs) (maL zs mk) pt)) := fun W hF => HR6.out W (hF10.trans hF (fun _ _ e => e))
  have HR7 : Hid (∀ W, Fresh w10 W → R6 W v7 (miL (woL zs) (maL zs mk) pt)) := fun W hF => HR7.out W (hF10.trans hF (fun _ _ e => e))
  clear H10 hG hR10 hF10 a0 a1 a2
  have H11 : Hid (Unit → _) := fun (_ : Unit) => refMix_any _ _ _ _ zs zs pt w10 (HP.out w10 HF10.out).2.2.1 (HP.out w10 HF10.out).2.2.1 HI.out.2
  obtain ⟨a0, a1, a2⟩ := (HP.out w10 HF10.out).1
  go_wp2_with fail
  refine (H11.out ()).mono ?_
  rintro e w11 hG
  obtain ⟨v11, rfl, hR11, hF11⟩ := gr hG (miL_len _ _ _) (miL_fit _ _ _)
  have HF11 : Hid (Fresh w0 w11) := HF10.out.trans hF11 (fun _ _ e => e)
  have HR11 : Hid (∀ W, Fresh w11 W → R6 W v11 (miL zs zs pt)) := fun W hF => hR11.fresh hF
  have HR1 : Hid (∀ W, Fresh w11 W → R6 W v1 (maL zs mk)) := fun W hF => HR1.out W (hF11.trans hF (fun _ _ e => e))
  have HR2 : Hid (∀ W, Fresh w11 W → R6 W v2 (maL zs mk)) := fun W hF => HR2.out W (hF11.trans hF (fun _ _ e => e))
  have HR3 : Hid (∀ W, Fresh w11 W → R6 W v3 (soL zs s)) := fun W hF => HR3.out W (hF11.trans hF (fun _ _ e => e))
  have HR4 : Hid (∀ W, Fresh w11 W → R6 W v4 (soL zs s)) := fun W hF => HR4.out W (hF11.trans hF (fun _ _ e => e))
  have HR5 : Hid (∀ W, Fresh w11 W → R6 W v5 (woL zs)) := fun W hF => HR5.out W (hF11.trans hF (fun _ _ e => e))
  have HR6 : Hid (∀ W, Fresh w11 W → R6 W v6 (miL (woL zs) (maL zs mk) pt)) := fun W hF => HR6.out W (hF11.trans hF (fun _ _ e => e))
  have HR7 : Hid (∀ W, Fresh w11 W → R6 W v7 (miL (woL zs) (maL zs mk) pt)) := fun W hF => HR7.out W (hF11.trans hF (fun _ _ e => e))
  have HR10 : Hid (∀ W, Fresh w11 W → R6 W v10 (miL zs zs pt)) := fun W hF => HR10.out W (hF11.trans hF (fun _ _ e => e))
  clear H11 hG hR11 hF11 a0 a1 a2
  have HAW : Hid (Unit → _) := fun (_ : Unit) => awake_any w11 (HP.out w11 HF11.out).2.1
  clear HP HI
  generalize maE zs mk = E1 at *
  generalize soE zs s = E2 at *
  generalize miE (woL zs) (maL zs mk) pt = E3 at *
  generalize beV (woL zs) vs = B1 at *
  generalize beP (woL zs) vs.length = B2 at *
  generalize meE (woL zs) vs.length = B3 at *
  generalize miE zs zs pt = E4 at *
  go_wp2_with fail
  refine (HAW.out ()).mono ?_
  rintro e w12 ⟨rfl, hF12⟩
  have HF12 : Hid (Fresh w11 w12) := hF12
  clear hF12 HAW
  have HC12 : Hid (Unit → _) := fun (_ : Unit) => longs_any _ _ _ _ _ w12 (HR1.out w12 HF12.out) (HR2.out w12 HF12.out)
  go_wp2_with fail
  refine (HC12.out ()).mono ?_
  rintro e w13 ⟨rfl, n12, hd12⟩
  have HF13 : Hid (Fresh w11 w13) := by show Fresh _ _; rw [hd12]; exact HF12.out.drewN n12
  clear hd12 HC12
  have HC13 : Hid (Unit → _) := fun (_ : Unit) => longs_any _ _ _ _ _ w13 (HR3.out w13 HF13.out) (HR4.out w13 HF13.out)
  go_wp2_with fail
  refine (HC13.out ()).mono ?_
  rintro e w14 ⟨rfl, n13, hd13⟩
  have HF14 : Hid (Fresh w11 w14) := by show Fresh _ _; rw [hd13]; exact HF13.out.drewN n13
  clear hd13 HC13
  have HC14 : Hid (Unit → _) := fun (_ : Unit) => longs_any _ _ _ _ _ w14 (HR6.out w14 HF14.out) (HR7.out w14 HF14.out)
  go_wp2_with fail
  refine (HC14.out ()).mono ?_
  rintro e w15 ⟨rfl, n14, hd14⟩
  have HF15 : Hid (Fresh w11 w15) := by show Fresh _ _; rw [hd14]; exact HF14.out.drewN n14
  clear hd14 HC14
  have HC15 : Hid (Unit → _) := fun (_ : Unit) => longs_any _ _ _ _ _ w15 (HR10.out w15 HF15.out) (HR11.out w15 HF15.out)
  go_wp2_with fail
  refine (HC15.out ()).mono ?_
  rintro e w16 ⟨rfl, n15, hd15⟩
  have HF16 : Hid (Fresh w11 w16) := by show Fresh _ _; rw [hd15]; exact HF15.out.drewN n15
  clear hd15 HC15
  have HEnd : Hid (Fresh w w16) := (HF00.out.trans HF11.out (fun _ _ e => e)).trans HF16.out (fun _ _ e => e)
  clear HF12 HF13 HF14 HF15 HF16 HF11 HR1 HR2 HR3 HR4 HR5 HR6 HR7 HR10 HR11
  go_wp2
  go_ret
  exact ⟨by simp, HEnd.out⟩

set_option maxRecDepth 100000 in
theorem contract (H : Type) (enc : TypeId × Value → H) (W : World) (base : Nat) (args : Array Value) (ds gs : List (DataW H)) (before : List MemPlace)
    (hval : ∀ (j : Nat) t v, Tryd.f4.params[j]? = some t → args[j]? = some v → Value.okWide Tryd.prog W .any base t v)
    (hW : DataW.Whole enc Tryd.prog Tryd.f4.params.toList Rows.softMasksSpec.vars false W args.toList ds gs before) 
    (hsz : (DataW.weightsEach Tryd.prog (Tryd.f4.params.toList ++ []) (ds ++ gs)).all (· ≤ reachBytes) = true) (hL : laidMetH Tryd.prog Rows.softMasksRow.laid W) :
    Calls Tryd.prog 4 args W fun e W' => ∃ v, e = .returned v ∧ Rows.softMasksSpec.post enc Tryd.prog Tryd.f4 false true false false W args v W' := by
  have hW' := hW
  obtain ⟨p, q, hA0, hV, rfl, hfz, hnd⟩ := hW
  have hA : DataW.TrodAll enc Tryd.prog W 0 (fun _ => true) true Tryd.f4.params.toList args.toList ds p := hA0
  rw [Tryd.params4] at hA hval hsz
  obtain ⟨rfl, rfl⟩ := trodVars_none hV
  obtain ⟨v0, v1, v2, d0, d1, d2, p0, p1, p2, rfl, rfl, rfl, h0, h1, h2⟩ := trodAll_three hA
  obtain ⟨zs, hz⟩ := arg64 (hval 0 22 v0 rfl rfl) h0 hsz (j := 0) rfl rfl
  obtain ⟨gs, hg⟩ := arg8 (hval 1 26 v1 rfl rfl) h1 hsz (j := 1) rfl rfl
  obtain ⟨mv, s, pt, mk, rfl, hs, hpt, hm⟩ := case_of (hval 2 42 v2 rfl rfl) h2 hsz (j := 2) rfl rfl
  refine (walk v0 v1 mv zs gs mk s pt W (bend_of_laid hL) hz hg hm hs hpt).mono fun e W' ⟨he, hk⟩ => ?_
  subst he
  exact ⟨_, rfl, post_law rfl (by kernel_rfl) (by kernel_rfl) hW' rfl hk⟩

set_option maxRecDepth 100000 in
theorem laid_met (os : Os) : laidMet Tryd.prog Rows.softMasksRow.laid ((layIn (World.holding Tryd.prog os ⟨#[], #[], []⟩)).forCall (fun _ _ => 0) ⟨#[], #[.slice none 0 0, .slice none 0 0, .agg #[.slice none 0 0, .int .i64 0, .int .i64 0]], []⟩).memory :=
  laidMet_of_run' 8 (by kernel_rfl) (by kernel_rfl)
set_option maxRecDepth 100000 in
theorem reads (os : Os) {H : Type} (enc : TypeId × Value → H) : ∃ places, DataW.whole enc Tryd.prog ((layIn (World.holding Tryd.prog os ⟨#[], #[], []⟩)).forCall (fun _ _ => 0) ⟨#[], #[.slice none 0 0, .slice none 0 0, .agg #[.slice none 0 0, .int .i64 0, .int .i64 0]], []⟩).memory Tryd.f4.params.toList Rows.softMasksSpec.vars false (#[.slice none 0 0, .slice none 0 0, .agg #[.slice none 0 0, .int .i64 0, .int .i64 0]] : Array Value).toList 8 = some ([.nil, .nil, .agg [.nil, .lit (.int .i64 0), .lit (.int .i64 0)]], [], places) :=
  ⟨[], by kernel_rfl⟩

set_option maxRecDepth 100000 in
theorem lifted (os : Os) (started : os.Started) (H : Type) (enc : TypeId × Value → H) (F : Stop.Interp) :
    ReturnsInHanded {} Tryd.checked os 4 .any ((OpenSpec.ofChange Rows.softMasksSpec).preRow enc Tryd.prog Tryd.f4 Rows.softMasksRow.domain false Rows.softMasksRow.laid) (((OpenSpec.ofChange Rows.softMasksSpec).at F).post enc Tryd.prog Tryd.f4 false true false false) := by
  obtain ⟨places, hx⟩ := reads os enc
  refine returnsInHanded_of_row (C := Tryd.checked) (s := OpenSpec.ofChange Rows.softMasksSpec) Tryd.own started (by kernel_rfl) Tryd.func4
    (witness_row_at (enc := enc) (C := Tryd.checked) false (layIn (World.holding Tryd.prog os ⟨#[], #[], []⟩)) #[.slice none 0 0, .slice none 0 0, .agg #[.slice none 0 0, .int .i64 0, .int .i64 0]] rfl (by kernel_rfl) (by kernel_rfl) (by kernel_rfl)
      (OpenSpec.preRow_of_cond 8 hx (by kernel_rfl) (fun k hk => by cases hk) (by kernel_rfl) (laid_met os))) ?_
  intro W base args ds gs before hval hW _ hc hsz hL _ _
  exact contract H enc W base args ds gs before hval hW hsz hL

theorem said : Rows.SoftMasksSaid :=
  OpenClaim.holds_of_cond 4 Tryd.f4 rfl rfl rfl rfl rfl rfl rfl ⟨rfl, rfl, rfl, rfl, rfl⟩ rfl rfl rfl rfl rfl (by kernel_rfl) Tryd.func4 (by kernel_rfl)
    (of_decide_eq_true (by kernel_rfl)) (by unfold Func.isWrapper; first | (rw [if_pos (by decide +kernel)]; kernel_rfl) | (rw [if_neg (by decide +kernel)]; exact ⟨rfl, rfl⟩))
    (fun os started H enc _ F => by rw [OpenClaim.pre_eq_preRow]; exact lifted os started H enc F)

theorem plain (f : FuncId) (fn : Func) (hf : Tryd.pinned.checked.prog.funcNamed Rows.softMasksRow.func = some f) (hfn : Tryd.pinned.checked.prog.funcs[f]? = some fn) :
    false = Tryd.pinned.checked.prog.looks [] ∧ ∀ (j : Nat) t, fn.params[j]? = some t → Tryd.pinned.checked.prog.wantsStandIn t = false := by
  obtain rfl : f = 4 := Option.some.inj ((show Tryd.prog.funcNamed Rows.softMasksRow.func = some 4 by kernel_rfl).symm.trans hf) |>.symm
  obtain rfl : fn = Tryd.f4 := (Option.some.inj (Tryd.func4.symm.trans hfn)).symm
  refine ⟨by kernel_rfl, fun j t ht => ?_⟩
  have hall : (Tryd.f4.params.toList.all fun u => !Tryd.prog.wantsStandIn u) = true := by kernel_rfl
  exact (show Tryd.prog.wantsStandIn t = false by simpa using List.all_eq_true.1 hall t (Array.mem_toList_iff.2 (Array.mem_of_getElem? ht)))

theorem card : Rows.SoftMasksCardSaid :=
  Claim7.holds_tied_plain_at .later [] _ _ _ _ said (fun _ h => by cases h) (by kernel_rfl) (fun _ h => by cases h) softMasks_row_tie rfl ⟨rfl, rfl⟩ (by kernel_rfl) rfl plain (by kernel_rfl)

end Go.Proofs.YtohoppnpbgplnabDoor.SMasks
namespace Go.Proofs.YtohoppnpbgplnabDoor
theorem softMasks_card : Rows.SoftMasksCardSaid := SMasks.card
end Go.Proofs.YtohoppnpbgplnabDoor
