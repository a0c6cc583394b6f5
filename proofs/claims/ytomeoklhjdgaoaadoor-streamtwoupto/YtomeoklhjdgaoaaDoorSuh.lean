/-
  Calls on a nil stream; kind; the document's New.
-/
import Derived.Test.YtomeoklhjdgaoaaDoorSug
import Derived.Test.YtomeoklhjdgaoaaDoorStj
import Derived.Test.YtomeoklhjdgaoaaDoorSty
namespace Go.Proofs.YtomeoklhjdgaoaaDoor
open Go.RowKit Go.Lib Go.Maps

set_option maxRecDepth 100000 in
theorem Feed_nil (piece : List UInt8) (w : World) : Calls Tryd.prog 20 #[.pointer none, sV piece] w fun e w' => e = .returned (sV []) ∧ w' = w := by
  go_enter Tryd.func20, Tryd.ntmps20
  go_wp2
  go_ret
  exact ⟨rfl, rfl⟩
set_option maxRecDepth 100000 in
theorem End_nil (w : World) : Calls Tryd.prog 23 #[.pointer none] w fun e w' => e = .returned (sV []) ∧ w' = w := by
  go_enter Tryd.func23, Tryd.ntmps23
  go_wp2
  go_ret
  exact ⟨rfl, rfl⟩
set_option maxRecDepth 100000 in
theorem Held_nil (w : World) : Calls Tryd.prog 21 #[.pointer none] w fun e w' => e = .returned (sV []) ∧ w' = w := by
  go_enter Tryd.func21, Tryd.ntmps21
  go_wp2
  go_ret
  exact ⟨rfl, rfl⟩
set_option maxRecDepth 100000 in
theorem Text_nil (w : World) : Calls Tryd.prog 15 #[.pointer none] w fun e w' => e = .returned (sV []) ∧ w' = w := by
  go_enter Tryd.func15, Tryd.ntmps15
  go_wp2
  go_ret
  exact ⟨rfl, rfl⟩
set_option maxRecDepth 100000 in
theorem Stopped_nil (w : World) : Calls Tryd.prog 22 #[.pointer none] w fun e w' => e = .returned (.tuple #[zV 0, .bool false]) ∧ w' = w := by
  go_enter Tryd.func22, Tryd.ntmps22
  go_wp2
  go_ret2
  exact ⟨rfl, rfl⟩
theorem six_kept {W : World} {z : Nat} (v0 v1 v2 v3 v4 v5 : Value) :
    Kept (fun q => q = z) W ((((((W.setCell ⟨z, 0, none⟩ v0).setCell ⟨z, 1, none⟩ v1).setCell ⟨z, 2, none⟩ v2).setCell ⟨z, 3, none⟩ v3).setCell ⟨z, 4, none⟩ v4).setCell ⟨z, 5, none⟩ v5) :=
  ((((((Kept.refl (fun q => q = z) W).setCell (p := ⟨z, 0, none⟩) (fun _ => rfl) _).setCell (p := ⟨z, 1, none⟩) (fun _ => rfl) _).setCell (p := ⟨z, 2, none⟩) (fun _ => rfl) _).setCell (p := ⟨z, 3, none⟩) (fun _ => rfl) _).setCell (p := ⟨z, 4, none⟩) (fun _ => rfl) _).setCell (p := ⟨z, 5, none⟩) (fun _ => rfl) _
set_option maxHeartbeats 4000000 in
set_option maxRecDepth 100000 in
theorem refNew_any {p : Nat → Prop} (T : List (List UInt8)) (v : Value) (w : World) (hR : TxR p w v T) :
    Calls Tryd.prog 34 #[v] w fun e w' => Fresh w w' ∧ ((chkF T ≠ 0 ∧ e = .returned (.tuple #[rsV true (.slice none 0 0) [] [] (-1) false, zV (chkF T)])) ∨
      (chkF T = 0 ∧ ∃ so sn sc, e = .returned (.tuple #[rsV false (.slice so sn sc) [] [] (-1) false, zV 0]) ∧ TxR (fun q => w.heap.size ≤ q ∧ q < w'.heap.size) w' (.slice so sn sc) T)) := by
  have hF0 : Fresh w (w.alloc rs0) := (Kept.refl _ w).alloc _
  have hb0 : (w.alloc rs0).heap[w.heap.size]? = some rs0 := heap_alloc_new _ _
  have HC := show Hid _ from refCheck_any T v _ (hR.fresh hF0)
  have HB : Hid (∀ W, Fresh (w.alloc rs0) W → W.heap[w.heap.size]? = some rs0 ∧ Fresh w W) := fun W hk => ⟨hk.at hb0 (fun e => e), hF0.trans hk (fun _ _ e => e)⟩
  have h20 := hR.len
  have hel := hR.each
  have HTw : Hid (∀ W, Fresh w W → w.heap.size < W.heap.size → ∃ so sn sc W', (Builtin.append_ #[26, 26] 26 #[.slice (some ⟨W.heap.size, 0, none⟩) 0 0, v]).run Tryd.prog (W.alloc (.cells #[] 9)) = .ok (.slice so sn sc) W' ∧ Fresh W W' ∧
      TxR (fun q => W.heap.size ≤ q ∧ q < W'.heap.size) W' (.slice so sn sc) T) := fun W hk hlt => by
    have hF : Fresh W (W.alloc (.cells #[] 9)) := (Kept.refl _ W).alloc _
    obtain ⟨t1, W1, g1, g2, g3⟩ := twinT 26 (W.alloc (.cells #[] 9)) W.heap.size (.slice (some ⟨W.heap.size, 0, none⟩) 0 0) (own_empty W _ (Nat.le_refl _) _) hF.size v T _ ((hR.fresh hk).fresh hF)
    have hF1 : Fresh W W1 := hF.grown g3 (fun k hk e => by simp [Value.ownBlock] at e; omega)
    obtain ⟨a, c, hsh⟩ := ownsRow_shape g2
    subst hsh
    exact ⟨a, _, c, W1, g1, hF1, txr_of_own g2 hel h20⟩
  obtain ⟨ao, cap, rfl⟩ := hR.shape
  clear hR hF0 hb0
  by_cases hc : chkF T = 0
  · have HE : Hid (chkF T = 0) := hc
    rw [hc] at HC
    clear hc hel
    generalize hn : T.length = n at *
    clear hn
    go_enter Tryd.func34, Tryd.ntmps34
    go_wp2_with fail
    refine Calls.mono HC.out ?_
    rintro e' W1 ⟨rfl, hF1⟩
    obtain ⟨hb1, hf1⟩ := HB.out W1 hF1
    have hlt := lt_of_heap hb1
    obtain ⟨so, sn, sc, W2, hr2, hf2, htx⟩ := HTw.out W1 hf1 hlt
    have hb2 := hf2.at hb1 (fun e => e)
    obtain ⟨z0, z1, z2, z3, z4, z5, zf⟩ := six_cells hb2
    have HZ := show Hid _ from six_set hb2
    have HEnd : Hid (∀ v0 v1 v2 v3 v4 v5, Fresh w ((((((W2.setCell ⟨w.heap.size, 0, none⟩ v0).setCell ⟨w.heap.size, 1, none⟩ v1).setCell ⟨w.heap.size, 2, none⟩ v2).setCell ⟨w.heap.size, 3, none⟩ v3).setCell ⟨w.heap.size, 4, none⟩ v4).setCell ⟨w.heap.size, 5, none⟩ v5) ∧
        TxR (fun q => w.heap.size ≤ q ∧ q < ((((((W2.setCell ⟨w.heap.size, 0, none⟩ v0).setCell ⟨w.heap.size, 1, none⟩ v1).setCell ⟨w.heap.size, 2, none⟩ v2).setCell ⟨w.heap.size, 3, none⟩ v3).setCell ⟨w.heap.size, 4, none⟩ v4).setCell ⟨w.heap.size, 5, none⟩ v5).heap.size)
          ((((((W2.setCell ⟨w.heap.size, 0, none⟩ v0).setCell ⟨w.heap.size, 1, none⟩ v1).setCell ⟨w.heap.size, 2, none⟩ v2).setCell ⟨w.heap.size, 3, none⟩ v3).setCell ⟨w.heap.size, 4, none⟩ v4).setCell ⟨w.heap.size, 5, none⟩ v5) (.slice so sn sc) T) := fun v0 v1 v2 v3 v4 v5 => by
      have hk := six_kept (W := W2) (z := w.heap.size) v0 v1 v2 v3 v4 v5
      refine ⟨(hf1.trans hf2 (fun _ _ e => e)).trans hk (fun i hi e => by have e' : i = w.heap.size := e; omega), (htx.kept hk (fun q hq e => by have e' : q = w.heap.size := e; omega)).mono (fun q hq => ⟨by omega, Nat.lt_of_lt_of_le hq.2 hk.size⟩)⟩
    clear HC HB HTw hF1 hb1 hf1 hlt hf2 htx hb2
    go_wp2_with (at_builtin; refine Lib.wpList_append_run _ rfl _ _ _ _ rfl _ _ rfl rfl _ _ hr2 ?_)
    exact bodyPost_ret (results_ct rfl _ _ w.heap.size _ _ _ _ rfl (HZ.out _ _ _ _ _ _) Tryd.underlying30 rfl rsSize) rfl ⟨(HEnd.out _ _ _ _ _ _).1, .inr ⟨HE.out, so, sn, sc, rfl, (HEnd.out _ _ _ _ _ _).2⟩⟩
  · have HE : Hid (chkF T ≠ 0) := hc
    generalize chkF T = E at *
    have hcb : (E == 0) = false := beq_eq_false_iff_ne.2 hc
    clear HTw hel hc
    generalize hn : T.length = n at *
    clear hn
    go_enter Tryd.func34, Tryd.ntmps34
    go_wp2_with fail
    refine Calls.mono HC.out ?_
    rintro e' W1 ⟨rfl, hF1⟩
    obtain ⟨hb1, hf1⟩ := HB.out W1 hF1
    obtain ⟨z0, z1, z2, z3, z4, z5, zf⟩ := six_cells hb1
    have HZ := show Hid _ from six_set hb1
    have HEnd : Hid (∀ v0 v1 v2 v3 v4 v5, Fresh w ((((((W1.setCell ⟨w.heap.size, 0, none⟩ v0).setCell ⟨w.heap.size, 1, none⟩ v1).setCell ⟨w.heap.size, 2, none⟩ v2).setCell ⟨w.heap.size, 3, none⟩ v3).setCell ⟨w.heap.size, 4, none⟩ v4).setCell ⟨w.heap.size, 5, none⟩ v5)) := fun v0 v1 v2 v3 v4 v5 =>
      hf1.trans (six_kept (W := W1) (z := w.heap.size) v0 v1 v2 v3 v4 v5) (fun i hi e => by have e' : i = w.heap.size := e; omega)
    clear HC HB hF1 hb1 hf1
    go_wp2
    exact bodyPost_ret (results_ct rfl _ _ w.heap.size _ _ _ _ rfl (HZ.out _ _ _ _ _ _) Tryd.underlying30 rfl rsSize) rfl ⟨HEnd.out _ _ _ _ _ _, .inl ⟨HE.out, rfl⟩⟩
def kdF (k : Int) : Int := (k.tmod 6 + 6) % 6
set_option maxRecDepth 100000 in
theorem kind_any (k : Int) (w : World) (h : I64 k) : Calls Tryd.prog 35 #[zV k, zV 6] w fun e w' => e = .returned (zV (kdF k)) ∧ w' = w := by
  obtain ⟨h1, h2⟩ := h
  have e1 : -6 < k.tmod 6 := by have := Int.lt_tmod_of_pos k (show (0 : Int) < 6 by decide); omega
  have e2 : k.tmod 6 < 6 := Int.tmod_lt_of_pos k (by decide)
  go_enter Tryd.func35, Tryd.ntmps35
  go_wp2
  go_ret
  exact ⟨rfl, rfl⟩
end Go.Proofs.YtomeoklhjdgaoaaDoor
