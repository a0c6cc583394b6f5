/-
  What is behind a token: the program's Next.
-/
import Derived.Test.YtdponkpgokncdaaGwa
namespace Go.Proofs.Ytdponkpgokncdaa
open Go.RowKit Go.Lib Go.Maps

section
variable {A : List Bool} {E : List Ed} {T : List (List UInt8)} {M : List Mg} {s k : Int}
theorem nx_bad (h : ¬ (vcE T M = 0 ∧ chE A E = 0)) : nxF A E T M s k = -1 := by
  unfold nxF wlF
  split
  · rename_i h1
    exact if_neg (fun e => h ⟨h1.1, e.1⟩)
  · rfl
theorem nx_out (h : ¬ (0 ≤ s ∧ s < ((nA A).length : Int))) : nxF A E T M s k = -1 := by
  unfold nxF wlF
  split
  · exact if_neg (fun e => h e.2)
  · rfl
theorem nx_in (h1 : vcE T M = 0) (h2 : chE A E = 0) (h3 : 0 ≤ s ∧ s < ((nA A).length : Int)) : nxF A E T M s k = if 0 < k ∧ k < (T.length : Int) then wkF (mF A E) s (gT T k.toNat) else -1 := by
  unfold nxF wlF
  by_cases h : 0 < k ∧ k < (T.length : Int)
  · rw [if_pos ⟨h1, h⟩, if_pos ⟨h2, h3⟩, if_pos h]
  · rw [if_neg (fun e => h e.2), if_neg h]
end
set_option maxHeartbeats 500000 in
set_option maxRecDepth 100000 in
theorem gnext_any {p q : Nat → Prop} (A : List Bool) (E : List Ed) (T : List (List UInt8)) (M : List Mg) (an en tv mv : Value) (w : World) (hA : RbL p w an A) (hE : EdR p w en E) (hT : TxR q w tv T) (hM : MgR q w mv M) (s k : Int) :
    Calls Try.prog 23 #[.agg #[an, en], .agg #[tv, mv], zV s, zV k] w fun e w' => e = .returned (zV (nxF A E T M s k)) ∧ Fresh w w' := by
  have hF1 : Fresh w ((w.alloc (.cells #[an, en] 25)).alloc (.cells #[tv, mv] 49)) := ((Kept.refl _ w).alloc _).alloc _
  have HC := show Hid _ from together_any A E T M an en tv mv _ (hA.fresh hF1) (hE.fresh hF1) (hT.fresh hF1) (hM.fresh hF1)
  have HB := show Hid _ from box2 w #[an, en] #[tv, mv] 25 49
  have HTX : Hid (∀ X, Fresh w X → TxR q X tv T) := fun X hX => hT.fresh hX
  obtain ⟨ta, tc, rfl⟩ := hT.shape
  obtain ⟨ma, mc, rfl⟩ := hM.shape
  obtain ⟨ao, ac, rfl⟩ := hA.shape
  obtain ⟨eo, ec, rfl⟩ := hE.shape
  clear hA hE hF1 hT hM
  have HZ1 : Hid (¬ (vcE T M = 0 ∧ chE A E = 0) → nxF A E T M s k = -1) := nx_bad
  have HZ2 : Hid (¬ (0 ≤ s ∧ s < ((nA A).length : Int)) → nxF A E T M s k = -1) := nx_out
  have HZ3 : Hid (vcE T M = 0 → chE A E = 0 → (0 ≤ s ∧ s < ((nA A).length : Int)) → nxF A E T M s k = if 0 < k ∧ k < (T.length : Int) then wkF (mF A E) s (gT T k.toNat) else -1) := nx_in
  unfold TgQ at HC
  generalize nxF A E T M s k = Z at *
  go_enter Try.func23, Try.ntmps23
  go_wp2_with fail
  refine Calls.mono HC.out ?_
  rintro e X ⟨hf, hc⟩
  obtain ⟨hfw, hb0, hb1⟩ := HB.out X hf
  have x0 : X.cell? ⟨w.heap.size + 1, 0, none⟩ = some (.slice ta T.length tc) := by rw [Lib.cell_of_heap hb1]; rfl
  have HF := show Hid _ from hfw
  clear hf HC hb0 hb1 hfw HB
  rcases hc with ⟨hne, rfl⟩ | ⟨hv0, hg0, B, b, av, sv, rfl, hm⟩
  · have HZ := show Hid _ from HZ1.out hne
    clear hne HZ1 HZ2 HZ3 HTX
    go_wp2
    go_ret
    exact ⟨by rw [HZ.out]; rfl, HF.out⟩
  · have HH := show Hid _ from has_any hm s
    by_cases hs : 0 ≤ s ∧ s < ((nA A).length : Int)
    · have hd : (decide (0 ≤ s) && decide (s < ((nA A).length : Int))) = true := by rw [decide_eq_true hs.1, decide_eq_true hs.2]; rfl
      rw [hd] at HH
      have HN := show Hid _ from next_mach hm T _ (HTX.out X HF.out) (good_64 (vcE_zero hv0).1) s (.inr hs) k
      have HZ := show Hid _ from HZ3.out hv0 hg0 hs
      clear hd hs hm hv0 hg0 HZ1 HZ2 HZ3 HTX
      generalize (if 0 < k ∧ k < (T.length : Int) then wkF (mF A E) s (gT T k.toNat) else -1) = Z2 at *
      go_wp2_with fail
      refine Calls.mono HH.out ?_
      rintro e X2 ⟨rfl, rfl⟩
      go_wp2_with fail
      refine Calls.mono HN.out ?_
      rintro e X3 ⟨rfl, rfl⟩
      go_wp2
      go_ret
      exact ⟨by rw [HZ.out]; rfl, HF.out⟩
    · have hd : (decide (0 ≤ s) && decide (s < ((nA A).length : Int))) = false := by
        by_cases e1 : 0 ≤ s
        · rw [decide_eq_true e1, decide_eq_false (fun e2 => hs ⟨e1, e2⟩)]; rfl
        · rw [decide_eq_false e1]; rfl
      rw [hd] at HH
      have HZ := show Hid _ from HZ2.out hs
      clear hd hs hm hv0 hg0 HZ1 HZ2 HZ3 HTX
      go_wp2_with fail
      refine Calls.mono HH.out ?_
      rintro e X2 ⟨rfl, rfl⟩
      go_wp2
      go_ret
      exact ⟨by rw [HZ.out]; rfl, HF.out⟩
end Go.Proofs.Ytdponkpgokncdaa
