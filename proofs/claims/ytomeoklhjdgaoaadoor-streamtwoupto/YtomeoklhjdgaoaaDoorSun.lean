/-
  step: Held.
-/
import Derived.Test.YtomeoklhjdgaoaaDoorSul
namespace Go.Proofs.YtomeoklhjdgaoaaDoor
open Go.RowKit Go.Lib Go.Maps

set_option maxHeartbeats 8000000 in
set_option maxRecDepth 100000 in
theorem step4 (T : List (List UInt8)) (F : Nat → Prop) (w : World) (pv : Value) (so : Option Addr) (sn sc : Nat) (no en : Bool) (all out piece : List UInt8) (met k : Int) (h : PlS T F w pv so sn sc no all out met en) (hk : I64 k) (hl : all.length + piece.length ≤ 4194304) (hkd : kdF k = 4) :
    Calls Tryd.prog 14 #[pv, rsV no (.slice so sn sc) all out met en, .agg #[zV k, sV piece]] w fun e w' => StepQ T F w pv so sn sc no (all.length + piece.length) e w' := by
  have HK : Hid (∀ W, Calls Tryd.prog 35 #[zV k, zV 6] W fun e w' => e = .returned (zV 4) ∧ w' = W) := fun W => by have := kind_any k W hk; rwa [hkd] at this
  obtain ⟨hd, hh, hb⟩ := h.held (by omega)
  have HH : Hid (∀ X, Fresh w X → Calls Tryd.prog 21 #[pv] X fun e w' => e = .returned (sV hd) ∧ w' = X) := hh
  have HB : Hid (∀ X, Fresh w X → Calls Tryd.prog 37 #[rsV no (.slice so sn sc) all out met en] X fun e w' => e = .returned (sV hd) ∧ Fresh X w') := hb
  have HW : Hid (∀ W, Fresh (((w.alloc (rsO no (.slice so sn sc) all out met en)).alloc (opO k piece)).alloc rs0) W → W.heap[w.heap.size]? = some (rsO no (.slice so sn sc) all out met en) ∧ W.heap[w.heap.size + 1 + 1]? = some rs0 ∧ Fresh w W) := fun W hk => by
    have h1 : (((w.alloc (rsO no (.slice so sn sc) all out met en)).alloc (opO k piece)).alloc rs0).heap[w.heap.size]? = some (rsO no (.slice so sn sc) all out met en) := by
      rw [Below.heap_alloc _ _ _ (by rw [World.size_alloc, World.size_alloc]; omega)]
      exact alloc1 _ _ _
    exact ⟨hk.at h1 (fun e => e), hk.at (alloc3 _ _ _ _) (fun e => e), ((((Kept.refl _ w).alloc _).alloc _).alloc _).trans hk (fun _ _ e => e)⟩
  have HE : Hid (∀ W W', Fresh w W → Kept (fun q => q = w.heap.size + 1 + 1) W W' → StepQ T F w pv so sn sc no (all.length + piece.length) (.returned (.tuple #[rsV no (.slice so sn sc) all out met en, .bool true])) W') := fun W W' hk hk2 => by
    have hk3 : Fresh w W' := hk.trans hk2 (fun i hi e => by have e' : i = w.heap.size + 1 + 1 := e; omega)
    exact ⟨all, out, met, en, F, rfl, h.fresh hk3, Mvd.fresh hk3, by omega⟩
  have hdd : (hd == hd) = true := beq_self_eq_true _
  clear hkd hk h hh hb
  go_enter Tryd.func14, Tryd.ntmps14
  go_wp2_with fail
  refine Calls.mono (HK.out _) ?_
  rintro e' W1 ⟨rfl, hW⟩
  subst hW
  clear HK
  go_wp2
  go_region_with (first | (go_at_call 21; refine Calls.mono (HH.out _ (by first | exact (((Kept.refl _ w).alloc _).alloc _).alloc _ | exact ((((Kept.refl _ w).alloc _).alloc _).alloc _).drew)) ?_; rintro e5 W5 ⟨rfl, hW5⟩; subst hW5) | (go_at_call 37; refine Calls.mono (HB.out _ (by first | exact (((Kept.refl _ w).alloc _).alloc _).alloc _ | exact ((((Kept.refl _ w).alloc _).alloc _).alloc _).drew)) ?_; rintro e6 W6 ⟨rfl, hf6⟩; obtain ⟨hb6, hr6, hfw6⟩ := HW.out W6 (by first | exact hf6 | exact hf6.undrew); obtain ⟨d0, d1, d2, d3, d4, d5, df⟩ := six_cells hb6; obtain ⟨z0, z1, z2, z3, z4, z5, zf⟩ := six_cells hr6; have HZ := show Hid _ from six_set hr6; have HEE := show Hid _ from fun W7 hk7 => HE.out W6 W7 hfw6 hk7; clear hf6 hb6 hr6 hfw6))
  all_goals
    go_wp2
    refine bodyPost_ret (results_ct rfl _ _ (w.heap.size + 1 + 1) _ _ _ _ rfl (HZ.out _ _ _ _ _ _) Tryd.underlying30 rfl rsSize) rfl ?_
    refine StepQ.cast (HEE.out _ (by first | exact six_kept _ _ _ _ _ _ | exact (six_kept _ _ _ _ _ _).drew)) ?_
    first | rfl | simp
end Go.Proofs.YtomeoklhjdgaoaaDoor
