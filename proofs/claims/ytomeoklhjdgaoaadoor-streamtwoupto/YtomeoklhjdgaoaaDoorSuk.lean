/-
  step: Stopped; what is wanted for those arms that change memory.
-/
import Derived.Test.YtomeoklhjdgaoaaDoorSuj
namespace Go.Proofs.YtomeoklhjdgaoaaDoor
open Go.RowKit Go.Lib Go.Maps

theorem StM.low {F : Nat → Prop} {W : World} {b : Nat} {T : List (List UInt8)} {out held : List UInt8} {en mt : Bool} {met : Int} (h : StM F W b T out held en mt met) : StM (fun q => F q ∧ q < W.heap.size) W b T out held en mt met := by
  obtain ⟨sv, ov, h⟩ := h
  refine ⟨sv, ov, h.blk, ?_, h.own, ⟨h.fb, lt_of_heap h.blk⟩, fun g hg => ⟨⟨(h.fo g hg).1, ?_⟩, (h.fo g hg).2⟩, fun g hg => h.f3 g hg.1⟩
  · obtain ⟨ao, cap, h1, h2, h3, h4, h6, h5⟩ := h.txr
    refine ⟨ao, cap, h1, h2, h3, h4, h6, fun h0 => ?_⟩
    obtain ⟨b', off, ha, hp, hb, hc⟩ := h5 h0
    exact ⟨b', off, ha, ⟨⟨hp.1, hb⟩, hp.2⟩, hb, hc⟩
  · rcases h.own.2 with ⟨e, _⟩ | ⟨g', cap', cur, e, _, hh, _⟩
    · rw [e] at hg; simp [Value.ownBlock] at hg
    · rw [e] at hg
      have : g' = g := by simpa [Value.ownBlock] using hg
      subst this
      exact lt_of_heap hh
theorem PlS.low {T : List (List UInt8)} {F : Nat → Prop} {W : World} {pv : Value} {so : Option Addr} {sn sc : Nat} {no en : Bool} {all out : List UInt8} {met : Int} (h : PlS T F W pv so sn sc no all out met en) : PlS T (fun q => F q ∧ q < W.heap.size) W pv so sn sc no all out met en := by
  rcases h with h | ⟨h1, b, h2, h3, h4, h5⟩
  · exact .inl h
  · refine .inr ⟨h1, b, h2, h3.mono (fun q hq e => hq e.1), h4, ?_⟩
    rcases h5 with ⟨a1, a2, a3, a4, a5⟩ | ⟨a1, a2⟩ | ⟨a1, a2, a3⟩
    · exact .inl ⟨a1, a2, a3, a4, a5.low⟩
    · exact .inr (.inl ⟨a1, a2.low⟩)
    · exact .inr (.inr ⟨a1, a2, a3.low⟩)
/-- A store into a block that is nobody's. -/
theorem PlS.store {T : List (List UInt8)} {F F' : Nat → Prop} {w W W' : World} {pv : Value} {so : Option Addr} {sn sc : Nat} {no en no' en' : Bool} {all out all' out' : List UInt8} {met met' : Int} {r : Nat} (h0 : PlS T F w pv so sn sc no all out met en) (h : PlS T F' W pv so sn sc no' all' out' met' en') (hn : no' = no)
    (hk : Kept F w W) (hF : ∀ q, F' q → F q ∨ w.heap.size ≤ q) (hr : w.heap.size ≤ r) (hr2 : ¬ F' r) (hk2 : Kept (fun q => q = r) W W') : PlS T F' W' pv so sn sc no' all' out' met' en' := by
  rcases h with h | ⟨h1, b, h2, h3, h4, h5⟩
  · exact .inl h
  · refine .inr ⟨h1, b, h2, ?_, h4, ?_⟩
    · rcases h0 with h0 | ⟨_, _, _, g3, _⟩
      · rw [hn, h0.1] at h1; cases h1
      · have g4 := g3.kept hk (fun q hq e => hq e)
        obtain ⟨ao, cap, e1, e2, e3, e4, e6, e5⟩ := g3
        refine ⟨ao, cap, e1, e2, e3, e4, e6, fun hp => ?_⟩
        obtain ⟨b', off, ha, hp1, hb, hc⟩ := e5 hp
        have hne : b' ≠ r := by omega
        refine ⟨b', off, ha, fun e => (hF b' e).elim hp1 (fun e => by omega), Nat.lt_of_lt_of_le hb (Nat.le_trans hk.size hk2.size), fun i hi => ?_⟩
        rw [hk2.cell (p := ⟨b', off + i, none⟩) (Nat.lt_of_lt_of_le hb hk.size) hne, hk.cell (p := ⟨b', off + i, none⟩) hb hp1]
        exact hc i hi
    · have hS : ∀ q, F' q → ¬ (q = r) := fun q hq e => hr2 (by rw [← e]; exact hq)
      rcases h5 with ⟨a1, a2, a3, a4, a5⟩ | ⟨a1, a2⟩ | ⟨a1, a2, a3⟩
      · exact .inl ⟨a1, a2, a3, a4, a5.kept hk2 hS⟩
      · exact .inr (.inl ⟨a1, a2.kept hk2 hS⟩)
      · exact .inr (.inr ⟨a1, a2, a3.kept hk2 hS⟩)
set_option maxHeartbeats 8000000 in
set_option maxRecDepth 100000 in
theorem step3 (T : List (List UInt8)) (F : Nat → Prop) (w : World) (pv : Value) (so : Option Addr) (sn sc : Nat) (no en : Bool) (all out piece : List UInt8) (met k : Int) (h : PlS T F w pv so sn sc no all out met en) (hk : I64 k) (hkd : kdF k = 3) :
    Calls Tryd.prog 14 #[pv, rsV no (.slice so sn sc) all out met en, .agg #[zV k, sV piece]] w fun e w' => StepQ T F w pv so sn sc no (all.length + piece.length) e w' := by
  have HK : Hid (∀ W, Calls Tryd.prog 35 #[zV k, zV 6] W fun e w' => e = .returned (zV 3) ∧ w' = W) := fun W => by have := kind_any k W hk; rwa [hkd] at this
  have HT := show Hid _ from (h.fresh ((((Kept.refl (fun _ => False) w).alloc (rsO no (.slice so sn sc) all out met en)).alloc (opO k piece)).alloc rs0)).stopped
  have HW : Hid (∀ W, Fresh (((w.alloc (rsO no (.slice so sn sc) all out met en)).alloc (opO k piece)).alloc rs0) W → W.heap[w.heap.size]? = some (rsO no (.slice so sn sc) all out met en) ∧ W.heap[w.heap.size + 1 + 1]? = some rs0 ∧ Fresh w W) := fun W hk => by
    have h1 : (((w.alloc (rsO no (.slice so sn sc) all out met en)).alloc (opO k piece)).alloc rs0).heap[w.heap.size]? = some (rsO no (.slice so sn sc) all out met en) := by
      rw [Below.heap_alloc _ _ _ (by rw [World.size_alloc, World.size_alloc]; omega)]
      exact alloc1 _ _ _
    exact ⟨hk.at h1 (fun e => e), hk.at (alloc3 _ _ _ _) (fun e => e), ((((Kept.refl _ w).alloc _).alloc _).alloc _).trans hk (fun _ _ e => e)⟩
  have HE : Hid (∀ W W', Fresh w W → Kept (fun q => q = w.heap.size + 1 + 1) W W' → StepQ T F w pv so sn sc no (all.length + piece.length) (.returned (.tuple #[rsV no (.slice so sn sc) all out met en, .bool true])) W') := fun W W' hk hk2 => by
    have hk3 : Fresh w W' := hk.trans hk2 (fun i hi e => by have e' : i = w.heap.size + 1 + 1 := e; omega)
    exact ⟨all, out, met, en, F, rfl, h.fresh hk3, Mvd.fresh hk3, by omega⟩
  clear hkd hk h
  go_enter Tryd.func14, Tryd.ntmps14
  go_wp2_with fail
  refine Calls.mono (HK.out _) ?_
  rintro e' W1 ⟨rfl, hW⟩
  subst hW
  clear HK
  go_wp2_with fail
  refine Calls.mono HT.out ?_
  rintro e' W2 ⟨hc, hF2⟩
  obtain ⟨hb, hr, hf⟩ := HW.out W2 hF2
  obtain ⟨c0, c1, c2, c3, c4, c5, cf⟩ := six_cells hb
  obtain ⟨z0, z1, z2, z3, z4, z5, zf⟩ := six_cells hr
  have HZ := show Hid _ from six_set hr
  have HF : Hid (Fresh w W2) := hf
  have hmm : (met == met) = true := beq_self_eq_true _
  clear HT HW hF2 hb hr hf
  rcases hc with ⟨rfl, hm⟩ | ⟨rfl, hm⟩
  · have hm' : ¬ met < 0 := by omega
    go_wp2
    refine bodyPost_ret (results_ct rfl _ _ (w.heap.size + 1 + 1) _ _ _ _ rfl (HZ.out _ _ _ _ _ _) Tryd.underlying30 rfl rsSize) rfl ?_
    refine StepQ.cast (HE.out _ _ HF.out (six_kept _ _ _ _ _ _)) ?_
    first | rfl | simp
  · subst hm
    go_wp2
    refine bodyPost_ret (results_ct rfl _ _ (w.heap.size + 1 + 1) _ _ _ _ rfl (HZ.out _ _ _ _ _ _) Tryd.underlying30 rfl rsSize) rfl ?_
    refine StepQ.cast (HE.out _ _ HF.out (six_kept _ _ _ _ _ _)) ?_
    first | rfl | simp
end Go.Proofs.YtomeoklhjdgaoaaDoor
