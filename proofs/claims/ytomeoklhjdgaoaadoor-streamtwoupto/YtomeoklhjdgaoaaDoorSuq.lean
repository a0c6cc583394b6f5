/-
  step: Feed.
-/
import Derived.Test.YtomeoklhjdgaoaaDoorSuo
namespace Go.Proofs.YtomeoklhjdgaoaaDoor
open Go.RowKit Go.Lib Go.Maps

set_option maxHeartbeats 8000000 in
set_option maxRecDepth 100000 in
theorem step0 (T : List (List UInt8)) (F : Nat → Prop) (w : World) (pv : Value) (so : Option Addr) (sn sc : Nat) (no en : Bool) (all out piece : List UInt8) (met k : Int) (h : PlS T F w pv so sn sc no all out met en) (hFl : ∀ q, F q → q < w.heap.size) (hk : I64 k) (hl : all.length + piece.length ≤ 4194304) (hm : TbM w) (hkd : kdF k ≠ 2 ∧ kdF k ≠ 3 ∧ kdF k ≠ 4 ∧ kdF k ≠ 5) :
    Calls Tryd.prog 14 #[pv, rsV no (.slice so sn sc) all out met en, .agg #[zV k, sV piece]] w fun e w' => StepQ T F w pv so sn sc no (all.length + piece.length) e w' := by
  have HK : Hid (∀ W, Calls Tryd.prog 35 #[zV k, zV 6] W fun e w' => e = .returned (zV (kdF k)) ∧ w' = W) := fun W => kind_any k W hk
  obtain ⟨pc, all', out', met', hlen, hd, hp⟩ := h.feed piece hl hm
  have HD := show Hid _ from hd _ ((((Kept.refl (fun _ => False) w).alloc (rsO no (.slice so sn sc) all out met en)).alloc (opO k piece)).alloc rs0)
  have HP : Hid (∀ X, Fresh w X → Calls Tryd.prog 20 #[pv, sV piece] X fun e w' => e = .returned (sV pc) ∧ ∃ F', PlS T F' w' pv so sn sc no all' out' met' en ∧ Mvd F X F' w') := hp
  have HW : Hid (∀ W, Fresh (((w.alloc (rsO no (.slice so sn sc) all out met en)).alloc (opO k piece)).alloc rs0) W → W.heap[w.heap.size]? = some (rsO no (.slice so sn sc) all out met en) ∧ W.heap[w.heap.size + 1 + 1]? = some rs0 ∧ Fresh w W ∧ W.heap[w.heap.size + 1]? = some (opO k piece)) := fun W hk => by
    have h1 : (((w.alloc (rsO no (.slice so sn sc) all out met en)).alloc (opO k piece)).alloc rs0).heap[w.heap.size]? = some (rsO no (.slice so sn sc) all out met en) := by
      rw [Below.heap_alloc _ _ _ (by rw [World.size_alloc, World.size_alloc]; omega)]
      exact alloc1 _ _ _
    exact ⟨hk.at h1 (fun e => e), hk.at (alloc3 _ _ _ _) (fun e => e), ((((Kept.refl _ w).alloc _).alloc _).alloc _).trans hk (fun _ _ e => e), hk.at (by rw [Below.heap_alloc _ _ _ (by rw [World.size_alloc, World.size_alloc]; omega)]; exact alloc2 _ _ _) (fun e => e)⟩
  have HE : Hid (∀ W6 W7 F', PlS T F' W6 pv so sn sc no all' out' met' en → Mvd F w F' W6 → ¬ F' (w.heap.size + 1 + 1) → Kept (fun q => q = w.heap.size + 1 + 1) W6 W7 → StepQ T F w pv so sn sc no (all.length + piece.length) (.returned (.tuple #[rsV no (.slice so sn sc) all' out' met' en, .bool true])) W7) := fun W6 W7 F' hP hM hn hk =>
    ⟨all', out', met', en, F', rfl, h.store hP rfl hM.1 hM.2.2 (by omega) hn hk, ⟨hM.1.trans hk (fun i hi e => by have e' : i = w.heap.size + 1 + 1 := e; omega), hM.2⟩, hlen⟩
  have HFl : Hid (∀ q, F q → q < w.heap.size) := hFl
  have hpp : (pc == pc) = true := beq_self_eq_true _
  clear hk h hd hp hFl hm hlen
  obtain ⟨k2, k3, k4, k5⟩ := hkd
  have b2 : (kdF k == 2) = false := beq_eq_false_iff_ne.2 k2
  have b3 : (kdF k == 3) = false := beq_eq_false_iff_ne.2 k3
  have b4 : (kdF k == 4) = false := beq_eq_false_iff_ne.2 k4
  have b5 : (kdF k == 5) = false := beq_eq_false_iff_ne.2 k5
  clear k2 k3 k4 k5
  generalize kdF k = K at *
  go_enter Tryd.func14, Tryd.ntmps14
  go_wp2_with fail
  refine Calls.mono (HK.out _) ?_
  rintro e' W1 ⟨rfl, hW⟩
  subst hW
  clear HK
  go_wp2_with fail
  refine Calls.mono HD.out ?_
  rintro e' W4 ⟨rfl, hF4⟩
  obtain ⟨hb, hr, hf, ho⟩ := HW.out W4 hF4
  obtain ⟨c0, c1, c2, c3, c4, c5, cf⟩ := six_cells hb
  obtain ⟨hf5, hx⟩ := step_mid (v0 := .bool no) (v1 := .slice so sn sc) (v2 := sV all') (v3 := sV out') (v4 := zV met') (v5 := .bool en) HFl.out hb hr hf
  have HF5 : Hid (Fresh w (sixW W4 w.heap.size (.bool no) (.slice so sn sc) (sV all') (sV out') (zV met') (.bool en))) := hf5
  have HO := show Hid _ from (six_kept (W := W4) (z := w.heap.size) (.bool no) (.slice so sn sc) (sV all') (sV out') (zV met') (.bool en)).at ho (by omega)
  have o1 : W4.cell? ⟨w.heap.size + 1, 1, none⟩ = some (sV piece) := by rw [Lib.cell_of_heap ho]; rfl
  have hM0 := hx _ F (.inl (Mvd.refl _ _))
  have HX := show Hid _ from hx
  have HM0 := show Hid _ from hM0
  clear HD HW hF4 hb hr hf hf5 hx hM0 ho
  go_wp2
  refine wp_gen (C := fun W5 => Hid (Fresh w W5) ∧ Hid (∀ W6 F', (Mvd F W5 F' W6 ∨ Mvd F W5.drew F' W6) → W6.heap[w.heap.size]? = some (.cells #[.bool no, .slice so sn sc, sV all', sV out', zV met', .bool en] 30 (0, 0)) ∧ W6.heap[w.heap.size + 1 + 1]? = some rs0 ∧ Mvd F w F' W6 ∧ ¬ F' (w.heap.size + 1 + 1)) ∧
    W5.heap[w.heap.size]? = some (.cells #[.bool no, .slice so sn sc, sV all', sV out', zV met', .bool en] 30 (0, 0)) ∧ W5.heap[w.heap.size + 1 + 1]? = some rs0 ∧ W5.heap[w.heap.size + 1]? = some (opO k piece)) ⟨HF5, HX, HM0.out.1, HM0.out.2.1, HO.out⟩ ?_
  clear HF5 HX HM0 HO o1 c0 c1 c2 c3 c4 c5 cf
  rintro W5 ⟨HF5, HX, hb5, hr5, ho5⟩
  have o1 : W5.cell? ⟨w.heap.size + 1, 1, none⟩ = some (sV piece) := by rw [Lib.cell_of_heap ho5]; rfl
  obtain ⟨c0, c1, c2, c3, c4, c5, cf⟩ := six_cells hb5
  clear hb5 hr5 ho5
  go_region_with (first | (go_at_call 20; refine Calls.mono (HP.out _ (by first | exact HF5.out | exact HF5.out.drew)) ?_; rintro e6 W6 ⟨rfl, F6, hP6, hM6⟩; obtain ⟨hb6, hr6, hmv6, hn6⟩ := HX.out W6 F6 (by first | exact .inl hM6 | exact .inr hM6); obtain ⟨d0, d1, d2, d3, d4, d5, df⟩ := six_cells hb6; obtain ⟨z0, z1, z2, z3, z4, z5, zf⟩ := six_cells hr6; have HZ := show Hid _ from six_set hr6; have HEE := show Hid _ from fun W7 hk7 => HE.out W6 W7 F6 hP6 hmv6 hn6 hk7; clear hP6 hM6 hb6 hr6 hmv6 hn6))
  all_goals
    go_wp2
    refine bodyPost_ret (results_ct rfl _ _ (w.heap.size + 1 + 1) _ _ _ _ rfl (HZ.out _ _ _ _ _ _) Tryd.underlying30 rfl rsSize) rfl ?_
    refine StepQ.cast (HEE.out _ (by first | exact six_kept _ _ _ _ _ _ | exact (six_kept _ _ _ _ _ _).drew)) ?_
    first | rfl | simp
end Go.Proofs.YtomeoklhjdgaoaaDoor
