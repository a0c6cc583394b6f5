/-
  The document's Mask, whatever is asked.
-/
import Derived.Test.YtdponkpgokncdaaGwi
namespace Go.Proofs.Ytdponkpgokncdaa
open Go.RowKit Go.Lib Go.Maps

set_option maxHeartbeats 1000000 in
set_option maxRecDepth 100000 in
theorem rmask_bad_v {p q : Nat → Prop} (A : List Bool) (E : List Ed) (T : List (List UInt8)) (M : List Mg) (an en tv mv : Value) (w : World) (hA : RbL p w an A) (hE : EdR p w en E) (hT : TxR q w tv T) (hM : MgR q w mv M) (s : Int) (hv : vcE T M ≠ 0) :
    Calls Try.prog 21 #[.agg #[an, en], .agg #[tv, mv], zV s] w fun e w' => MkQ A E T M s w e w' := by
  have HB := show Hid _ from box2 w #[an, en] #[tv, mv] 28 55
  have HVC : Hid (∀ X, Fresh w X → Calls Try.prog 27 #[.agg #[tv, mv]] X fun e X' => e = .returned (.tuple #[zV (vcP T M), zV (vcE T M)]) ∧ Fresh X X') := fun X hX => refCheck_any X tv mv T M (hT.fresh hX) (hM.fresh hX)
  have HGC : Hid (∀ X, Fresh w X → Calls Try.prog 11 #[.agg #[an, en]] X fun e X' => e = .returned (.tuple #[zV (chP A E), zV (chE A E)]) ∧ Fresh X X') := fun X hX => rcheck_any A E an en X (hA.fresh hX) (hE.fresh hX)
  have HQ : Hid (∀ X, Fresh w X → MkQ A E T M s w (.returned (.tuple #[.slice (some ⟨X.heap.size, 0, none⟩) 0 0, zV (vcE T M)])) (X.alloc (.cells #[] 4))) := fun X hX => MkQ.empty (mk_bad1 hv).1 (mk_bad1 hv).2 hX
  obtain ⟨ta, tc, rfl⟩ := hT.shape
  obtain ⟨ma, mc, rfl⟩ := hM.shape
  obtain ⟨ao, ac, rfl⟩ := hA.shape
  obtain ⟨eo, ec, rfl⟩ := hE.shape
  clear hA hE hT hM
  generalize MkQ A E T M s = Q at *
  generalize vcE T M = ce at *
  generalize vcP T M = cp at *
  generalize chE A E = ge at *
  generalize chP A E = gp at *
  have hne : ((ce : Int) != 0) = true := bne_iff_ne.2 hv
  go_enter Try.func21, Try.ntmps21
  go_upto_region 1 with fail
  have HK0 : Hid (Fresh ((w.alloc (.cells #[.slice ao A.length ac, .slice eo E.length ec] 28)).alloc (.cells #[.slice ta T.length tc, .slice ma M.length mc] 55)) ((w.alloc (.cells #[.slice ao A.length ac, .slice eo E.length ec] 28)).alloc (.cells #[.slice ta T.length tc, .slice ma M.length mc] 55))) := Kept.refl _ _
  generalize (w.alloc (.cells #[.slice ao A.length ac, .slice eo E.length ec] 28)).alloc (.cells #[.slice ta T.length tc, .slice ma M.length mc] 55) = W1 at *
  have HX : Hid (∀ X, Fresh W1 X → Fresh w X ∧ X.cell? ⟨w.heap.size, 0, none⟩ = some (.slice ao A.length ac) ∧ X.cell? ⟨w.heap.size, 1, none⟩ = some (.slice eo E.length ec) ∧ X.cell? ⟨w.heap.size + 1, 0, none⟩ = some (.slice ta T.length tc) ∧ X.cell? ⟨w.heap.size + 1, 1, none⟩ = some (.slice ma M.length mc)) := fun X hk => by
    obtain ⟨hf1, hb0, hb1⟩ := HB.out X hk
    exact ⟨hf1, by rw [Lib.cell_of_heap hb0]; rfl, by rw [Lib.cell_of_heap hb0]; rfl, by rw [Lib.cell_of_heap hb1]; rfl, by rw [Lib.cell_of_heap hb1]; rfl⟩
  clear HB
  obtain ⟨hf1, x0, x1, x2, x3⟩ := HX.out W1 HK0.out
  have HV1 := show Hid _ from HVC.out W1 hf1
  clear hf1 HVC HK0
  go_wp2_with fail
  refine Calls.mono HV1.out ?_
  rintro e W2 ⟨rfl, hf2⟩
  obtain ⟨hf2w, x0, x1, x2, x3⟩ := HX.out W2 hf2
  have HF2 : Hid (Fresh W1 W2) := hf2
  have HG1c := show Hid _ from HGC.out W2 hf2w
  clear hf2 HV1 HGC
  have HZ := show Hid _ from HQ.out W2 hf2w
  clear HQ HG1c hf2w
  go_wp2
  exact HZ.out
set_option maxHeartbeats 1000000 in
set_option maxRecDepth 100000 in
theorem rmask_bad_g {p q : Nat → Prop} (A : List Bool) (E : List Ed) (T : List (List UInt8)) (M : List Mg) (an en tv mv : Value) (w : World) (hA : RbL p w an A) (hE : EdR p w en E) (hT : TxR q w tv T) (hM : MgR q w mv M) (s : Int) (hv : vcE T M = 0) (hc : chE A E ≠ 0) :
    Calls Try.prog 21 #[.agg #[an, en], .agg #[tv, mv], zV s] w fun e w' => MkQ A E T M s w e w' := by
  have HB := show Hid _ from box2 w #[an, en] #[tv, mv] 28 55
  have HVC : Hid (∀ X, Fresh w X → Calls Try.prog 27 #[.agg #[tv, mv]] X fun e X' => e = .returned (.tuple #[zV (vcP T M), zV (vcE T M)]) ∧ Fresh X X') := fun X hX => refCheck_any X tv mv T M (hT.fresh hX) (hM.fresh hX)
  have HGC : Hid (∀ X, Fresh w X → Calls Try.prog 11 #[.agg #[an, en]] X fun e X' => e = .returned (.tuple #[zV (chP A E), zV (chE A E)]) ∧ Fresh X X') := fun X hX => rcheck_any A E an en X (hA.fresh hX) (hE.fresh hX)
  have HQ : Hid (∀ X, Fresh w X → MkQ A E T M s w (.returned (.tuple #[.slice (some ⟨X.heap.size, 0, none⟩) 0 0, zV (chE A E : Int)])) (X.alloc (.cells #[] 4))) := fun X hX => MkQ.empty (mk_bad2 hv hc).1 (mk_bad2 hv hc).2 hX
  obtain ⟨ta, tc, rfl⟩ := hT.shape
  obtain ⟨ma, mc, rfl⟩ := hM.shape
  obtain ⟨ao, ac, rfl⟩ := hA.shape
  obtain ⟨eo, ec, rfl⟩ := hE.shape
  clear hA hE hT hM
  generalize MkQ A E T M s = Q at *
  generalize vcE T M = ce at *
  generalize vcP T M = cp at *
  generalize chE A E = ge at *
  generalize chP A E = gp at *
  subst hv
  have hne : ((ge : Int) != 0) = true := bne_iff_ne.2 (by omega)
  go_enter Try.func21, Try.ntmps21
  go_upto_region 1 with fail
  have HK0 : Hid (Fresh ((w.alloc (.cells #[.slice ao A.length ac, .slice eo E.length ec] 28)).alloc (.cells #[.slice ta T.length tc, .slice ma M.length mc] 55)) ((w.alloc (.cells #[.slice ao A.length ac, .slice eo E.length ec] 28)).alloc (.cells #[.slice ta T.length tc, .slice ma M.length mc] 55))) := Kept.refl _ _
  generalize (w.alloc (.cells #[.slice ao A.length ac, .slice eo E.length ec] 28)).alloc (.cells #[.slice ta T.length tc, .slice ma M.length mc] 55) = W1 at *
  have HX : Hid (∀ X, Fresh W1 X → Fresh w X ∧ X.cell? ⟨w.heap.size, 0, none⟩ = some (.slice ao A.length ac) ∧ X.cell? ⟨w.heap.size, 1, none⟩ = some (.slice eo E.length ec) ∧ X.cell? ⟨w.heap.size + 1, 0, none⟩ = some (.slice ta T.length tc) ∧ X.cell? ⟨w.heap.size + 1, 1, none⟩ = some (.slice ma M.length mc)) := fun X hk => by
    obtain ⟨hf1, hb0, hb1⟩ := HB.out X hk
    exact ⟨hf1, by rw [Lib.cell_of_heap hb0]; rfl, by rw [Lib.cell_of_heap hb0]; rfl, by rw [Lib.cell_of_heap hb1]; rfl, by rw [Lib.cell_of_heap hb1]; rfl⟩
  clear HB
  obtain ⟨hf1, x0, x1, x2, x3⟩ := HX.out W1 HK0.out
  have HV1 := show Hid _ from HVC.out W1 hf1
  clear hf1 HVC HK0
  go_wp2_with fail
  refine Calls.mono HV1.out ?_
  rintro e W2 ⟨rfl, hf2⟩
  obtain ⟨hf2w, x0, x1, x2, x3⟩ := HX.out W2 hf2
  have HF2 : Hid (Fresh W1 W2) := hf2
  have HG1c := show Hid _ from HGC.out W2 hf2w
  clear hf2 HV1 HGC
  clear hf2w
  go_wp2_with fail
  refine Calls.mono HG1c.out ?_
  rintro e W3 ⟨rfl, hf3⟩
  have HF3 : Hid (Fresh W1 W3) := HF2.out.trans hf3 (fun _ _ e => e)
  obtain ⟨hf3w, x0, x1, x2, x3⟩ := HX.out W3 HF3.out
  clear hf3 HF2 HG1c
  have HZ := show Hid _ from HQ.out W3 hf3w
  clear HQ hf3w
  go_wp2
  exact HZ.out
set_option maxHeartbeats 1000000 in
set_option maxRecDepth 100000 in
theorem rmask_bad_u {p q : Nat → Prop} (A : List Bool) (E : List Ed) (T : List (List UInt8)) (M : List Mg) (an en tv mv : Value) (w : World) (hA : RbL p w an A) (hE : EdR p w en E) (hT : TxR q w tv T) (hM : MgR q w mv M) (s : Int) (hv : vcE T M = 0) (hc : chE A E = 0) (hA0 : A.length = 0) (hd : ¬ DmS A s) :
    Calls Try.prog 21 #[.agg #[an, en], .agg #[tv, mv], zV s] w fun e w' => MkQ A E T M s w e w' := by
  have HB := show Hid _ from box2 w #[an, en] #[tv, mv] 28 55
  have HVC : Hid (∀ X, Fresh w X → Calls Try.prog 27 #[.agg #[tv, mv]] X fun e X' => e = .returned (.tuple #[zV (vcP T M), zV (vcE T M)]) ∧ Fresh X X') := fun X hX => refCheck_any X tv mv T M (hT.fresh hX) (hM.fresh hX)
  have HGC : Hid (∀ X, Fresh w X → Calls Try.prog 11 #[.agg #[an, en]] X fun e X' => e = .returned (.tuple #[zV (chP A E), zV (chE A E)]) ∧ Fresh X X') := fun X hX => rcheck_any A E an en X (hA.fresh hX) (hE.fresh hX)
  have HQ : Hid (∀ X, Fresh w X → MkQ A E T M s w (.returned (.tuple #[.slice (some ⟨X.heap.size, 0, none⟩) 0 0, zV 1])) (X.alloc (.cells #[] 4))) := fun X hX => MkQ.empty (mk_bad3 hv hc hd).1 (mk_bad3 hv hc hd).2 hX
  obtain ⟨ta, tc, rfl⟩ := hT.shape
  obtain ⟨ma, mc, rfl⟩ := hM.shape
  obtain ⟨ao, ac, rfl⟩ := hA.shape
  obtain ⟨eo, ec, rfl⟩ := hE.shape
  clear hA hE hT hM
  have hs1 : s ≠ -1 := fun e => hd (.inl e)
  have hs0 : s ≠ 0 := fun e => hd (.inr ⟨by omega, by have := nA_pos A; omega⟩)
  clear hd
  generalize MkQ A E T M s = Q at *
  generalize vcE T M = ce at *
  generalize vcP T M = cp at *
  generalize chE A E = ge at *
  generalize chP A E = gp at *
  have HA0 : Hid (A.length = 0) := hA0
  clear hA0
  generalize A.length = na at *
  subst hv
  subst hc
  have hs2 : (s != -1) = true := bne_iff_ne.2 hs1
  have hs3 : (s != 0) = true := bne_iff_ne.2 hs0
  have hpos : ¬ (0 : Int) < (na : Int) := by
    have := HA0.out
    omega
  go_enter Try.func21, Try.ntmps21
  go_upto_region 1 with fail
  have HK0 : Hid (Fresh ((w.alloc (.cells #[.slice ao na ac, .slice eo E.length ec] 28)).alloc (.cells #[.slice ta T.length tc, .slice ma M.length mc] 55)) ((w.alloc (.cells #[.slice ao na ac, .slice eo E.length ec] 28)).alloc (.cells #[.slice ta T.length tc, .slice ma M.length mc] 55))) := Kept.refl _ _
  generalize (w.alloc (.cells #[.slice ao na ac, .slice eo E.length ec] 28)).alloc (.cells #[.slice ta T.length tc, .slice ma M.length mc] 55) = W1 at *
  have HX : Hid (∀ X, Fresh W1 X → Fresh w X ∧ X.cell? ⟨w.heap.size, 0, none⟩ = some (.slice ao na ac) ∧ X.cell? ⟨w.heap.size, 1, none⟩ = some (.slice eo E.length ec) ∧ X.cell? ⟨w.heap.size + 1, 0, none⟩ = some (.slice ta T.length tc) ∧ X.cell? ⟨w.heap.size + 1, 1, none⟩ = some (.slice ma M.length mc)) := fun X hk => by
    obtain ⟨hf1, hb0, hb1⟩ := HB.out X hk
    exact ⟨hf1, by rw [Lib.cell_of_heap hb0]; rfl, by rw [Lib.cell_of_heap hb0]; rfl, by rw [Lib.cell_of_heap hb1]; rfl, by rw [Lib.cell_of_heap hb1]; rfl⟩
  clear HB
  obtain ⟨hf1, x0, x1, x2, x3⟩ := HX.out W1 HK0.out
  have HV1 := show Hid _ from HVC.out W1 hf1
  clear hf1 HVC HK0
  go_wp2_with fail
  refine Calls.mono HV1.out ?_
  rintro e W2 ⟨rfl, hf2⟩
  obtain ⟨hf2w, x0, x1, x2, x3⟩ := HX.out W2 hf2
  have HF2 : Hid (Fresh W1 W2) := hf2
  have HG1c := show Hid _ from HGC.out W2 hf2w
  clear hf2 HV1 HGC
  clear hf2w
  go_wp2_with fail
  refine Calls.mono HG1c.out ?_
  rintro e W3 ⟨rfl, hf3⟩
  have HF3 : Hid (Fresh W1 W3) := HF2.out.trans hf3 (fun _ _ e => e)
  obtain ⟨hf3w, x0, x1, x2, x3⟩ := HX.out W3 HF3.out
  clear hf3 HF2 HG1c
  have HZ := show Hid _ from HQ.out W3 hf3w
  clear HQ hf3w
  go_wp2
  exact HZ.out
set_option maxHeartbeats 1000000 in
set_option maxRecDepth 100000 in
theorem rmask_bad_b {p q : Nat → Prop} (A : List Bool) (E : List Ed) (T : List (List UInt8)) (M : List Mg) (an en tv mv : Value) (w : World) (hA : RbL p w an A) (hE : EdR p w en E) (hT : TxR q w tv T) (hM : MgR q w mv M) (s : Int) (hv : vcE T M = 0) (hc : chE A E = 0) (hA0 : 0 < A.length) (hd : ¬ DmS A s) :
    Calls Try.prog 21 #[.agg #[an, en], .agg #[tv, mv], zV s] w fun e w' => MkQ A E T M s w e w' := by
  have HB := show Hid _ from box2 w #[an, en] #[tv, mv] 28 55
  have HVC : Hid (∀ X, Fresh w X → Calls Try.prog 27 #[.agg #[tv, mv]] X fun e X' => e = .returned (.tuple #[zV (vcP T M), zV (vcE T M)]) ∧ Fresh X X') := fun X hX => refCheck_any X tv mv T M (hT.fresh hX) (hM.fresh hX)
  have HGC : Hid (∀ X, Fresh w X → Calls Try.prog 11 #[.agg #[an, en]] X fun e X' => e = .returned (.tuple #[zV (chP A E), zV (chE A E)]) ∧ Fresh X X') := fun X hX => rcheck_any A E an en X (hA.fresh hX) (hE.fresh hX)
  have HQ : Hid (∀ X, Fresh w X → MkQ A E T M s w (.returned (.tuple #[.slice (some ⟨X.heap.size, 0, none⟩) 0 0, zV 1])) (X.alloc (.cells #[] 4))) := fun X hX => MkQ.empty (mk_bad3 hv hc hd).1 (mk_bad3 hv hc hd).2 hX
  obtain ⟨ta, tc, rfl⟩ := hT.shape
  obtain ⟨ma, mc, rfl⟩ := hM.shape
  obtain ⟨ao, ac, rfl⟩ := hA.shape
  obtain ⟨eo, ec, rfl⟩ := hE.shape
  clear hA hE hT hM
  have hs1 : s ≠ -1 := fun e => hd (.inl e)
  have hsb : (decide (0 ≤ s) && decide (s < (A.length : Int))) = false := by
    rw [Bool.eq_false_iff]
    intro e
    simp only [Bool.and_eq_true, decide_eq_true_eq] at e
    exact hd (.inr (by rw [(mF_some (E := E) hA0).1]; exact e))
  clear hd
  generalize MkQ A E T M s = Q at *
  generalize vcE T M = ce at *
  generalize vcP T M = cp at *
  generalize chE A E = ge at *
  generalize chP A E = gp at *
  have HA0 : Hid (0 < A.length) := hA0
  clear hA0
  generalize A.length = na at *
  subst hv
  subst hc
  have hs2 : (s != -1) = true := bne_iff_ne.2 hs1
  have hpos : (0 : Int) < (na : Int) := by
    have := HA0.out
    omega
  go_enter Try.func21, Try.ntmps21
  go_upto_region 1 with fail
  have HK0 : Hid (Fresh ((w.alloc (.cells #[.slice ao na ac, .slice eo E.length ec] 28)).alloc (.cells #[.slice ta T.length tc, .slice ma M.length mc] 55)) ((w.alloc (.cells #[.slice ao na ac, .slice eo E.length ec] 28)).alloc (.cells #[.slice ta T.length tc, .slice ma M.length mc] 55))) := Kept.refl _ _
  generalize (w.alloc (.cells #[.slice ao na ac, .slice eo E.length ec] 28)).alloc (.cells #[.slice ta T.length tc, .slice ma M.length mc] 55) = W1 at *
  have HX : Hid (∀ X, Fresh W1 X → Fresh w X ∧ X.cell? ⟨w.heap.size, 0, none⟩ = some (.slice ao na ac) ∧ X.cell? ⟨w.heap.size, 1, none⟩ = some (.slice eo E.length ec) ∧ X.cell? ⟨w.heap.size + 1, 0, none⟩ = some (.slice ta T.length tc) ∧ X.cell? ⟨w.heap.size + 1, 1, none⟩ = some (.slice ma M.length mc)) := fun X hk => by
    obtain ⟨hf1, hb0, hb1⟩ := HB.out X hk
    exact ⟨hf1, by rw [Lib.cell_of_heap hb0]; rfl, by rw [Lib.cell_of_heap hb0]; rfl, by rw [Lib.cell_of_heap hb1]; rfl, by rw [Lib.cell_of_heap hb1]; rfl⟩
  clear HB
  obtain ⟨hf1, x0, x1, x2, x3⟩ := HX.out W1 HK0.out
  have HV1 := show Hid _ from HVC.out W1 hf1
  clear hf1 HVC HK0
  go_wp2_with fail
  refine Calls.mono HV1.out ?_
  rintro e W2 ⟨rfl, hf2⟩
  obtain ⟨hf2w, x0, x1, x2, x3⟩ := HX.out W2 hf2
  have HF2 : Hid (Fresh W1 W2) := hf2
  have HG1c := show Hid _ from HGC.out W2 hf2w
  clear hf2 HV1 HGC
  clear hf2w
  go_wp2_with fail
  refine Calls.mono HG1c.out ?_
  rintro e W3 ⟨rfl, hf3⟩
  have HF3 : Hid (Fresh W1 W3) := HF2.out.trans hf3 (fun _ _ e => e)
  obtain ⟨hf3w, x0, x1, x2, x3⟩ := HX.out W3 HF3.out
  clear hf3 HF2 HG1c
  have HSTA := show Hid _ from rstate_any ao eo na ac E.length ec s W3
  rw [hsb] at HSTA
  have HZ := show Hid _ from HQ.out (W3.alloc (.cells #[.slice ao na ac, .slice eo E.length ec] 28)) (hf3w.alloc _)
  clear HQ hf3w hsb
  go_wp2_with fail
  refine Calls.mono HSTA.out ?_
  rintro e W4 ⟨rfl, rfl⟩
  clear HSTA
  generalize W3.alloc (.cells #[.slice ao na ac, .slice eo E.length ec] 28) = W5 at *
  go_wp2
  exact HZ.out
theorem rmask_any {p q : Nat → Prop} (A : List Bool) (E : List Ed) (T : List (List UInt8)) (M : List Mg) (an en tv mv : Value) (w : World) (hA : RbL p w an A) (hE : EdR p w en E) (hT : TxR q w tv T) (hM : MgR q w mv M) (s : Int) :
    Calls Try.prog 21 #[.agg #[an, en], .agg #[tv, mv], zV s] w fun e w' => MkQ A E T M s w e w' := by
  by_cases hv : vcE T M = 0
  · by_cases hc : chE A E = 0
    · rcases Nat.eq_zero_or_pos A.length with hA0 | hA0
      · by_cases hd : DmS A s
        · have h1 : (nA A).length = 1 := by rw [(mF_empty (E := E) hA0).1]; rfl
          rcases hd with hs | ⟨h2, h3⟩
          · exact rmask_none0 A E T M an en tv mv w hA hE hT hM s hv hc hA0 hs
          · exact rmask_empty A E T M an en tv mv w hA hE hT hM s hv hc hA0 (by omega)
        · exact rmask_bad_u A E T M an en tv mv w hA hE hT hM s hv hc hA0 hd
      · by_cases hd : DmS A s
        · rcases hd with hs | ⟨h2, h3⟩
          · exact rmask_none1 A E T M an en tv mv w hA hE hT hM s hv hc hA0 hs
          · rw [(mF_some (E := E) hA0).1] at h3
            exact rmask_bound A E T M an en tv mv w hA hE hT hM s hv hc hA0 s.toNat (by omega) (by omega)
        · exact rmask_bad_b A E T M an en tv mv w hA hE hT hM s hv hc hA0 hd
    · exact rmask_bad_g A E T M an en tv mv w hA hE hT hM s hv hc
  · exact rmask_bad_v A E T M an en tv mv w hA hE hT hM s hv
end Go.Proofs.Ytdponkpgokncdaa
