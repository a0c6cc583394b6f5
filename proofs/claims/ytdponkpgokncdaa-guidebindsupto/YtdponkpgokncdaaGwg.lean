/-
  Which tokens may follow: the program's Mask.
-/
import Derived.Test.YtdponkpgokncdaaGwf
namespace Go.Proofs.Ytdponkpgokncdaa
open Go.RowKit Go.Lib Go.Maps

/-- Is it a state, or none? -/
def DmS (A : List Bool) (s : Int) : Prop := s = -1 ∨ (0 ≤ s ∧ s < ((nA A).length : Int))
instance (A : List Bool) (s : Int) : Decidable (DmS A s) := by unfold DmS; infer_instance
def mkE (A : List Bool) (E : List Ed) (T : List (List UInt8)) (M : List Mg) (s : Int) : Int := if vcE T M ≠ 0 then vcE T M else if chE A E ≠ 0 then chE A E else if DmS A s then 0 else 1
def mkM (A : List Bool) (E : List Ed) (T : List (List UInt8)) (M : List Mg) (s : Int) : List Bool := if vcE T M = 0 ∧ chE A E = 0 ∧ DmS A s then msF (mkB T.length (myF (mF A E) (nA A) T s)) else []
theorem mk_bad1 {A : List Bool} {E : List Ed} {T : List (List UInt8)} {M : List Mg} {s : Int} (h : vcE T M ≠ 0) : mkE A E T M s = vcE T M ∧ mkM A E T M s = [] := ⟨if_pos h, if_neg (fun e => h e.1)⟩
theorem mk_bad2 {A : List Bool} {E : List Ed} {T : List (List UInt8)} {M : List Mg} {s : Int} (h : vcE T M = 0) (h2 : chE A E ≠ 0) : mkE A E T M s = chE A E ∧ mkM A E T M s = [] := ⟨by unfold mkE; rw [if_neg (by simpa using h), if_pos h2], if_neg (fun e => h2 e.2.1)⟩
theorem mk_bad3 {A : List Bool} {E : List Ed} {T : List (List UInt8)} {M : List Mg} {s : Int} (h : vcE T M = 0) (h2 : chE A E = 0) (h3 : ¬ DmS A s) : mkE A E T M s = 1 ∧ mkM A E T M s = [] := ⟨by unfold mkE; rw [if_neg (by simpa using h), if_neg (by simpa using h2), if_neg h3], if_neg (fun e => h3 e.2.2)⟩
theorem mk_ok {A : List Bool} {E : List Ed} {T : List (List UInt8)} {M : List Mg} {s : Int} (h : vcE T M = 0) (h2 : chE A E = 0) (h3 : DmS A s) : mkE A E T M s = 0 ∧ mkM A E T M s = msF (mkB T.length (myF (mF A E) (nA A) T s)) := ⟨by unfold mkE; rw [if_neg (by simpa using h), if_neg (by simpa using h2), if_pos h3], if_pos ⟨h, h2, h3⟩⟩
/-- What both answer. -/
def MkQ (A : List Bool) (E : List Ed) (T : List (List UInt8)) (M : List Mg) (s : Int) (w : World) (e : Ending) (w' : World) : Prop :=
  ∃ v, e = .returned (.tuple #[v, zV (mkE A E T M s)]) ∧ w'.ownsRow w.heap.size 4 1 v (mkM A E T M s).length ((mkM A E T M s).map Value.bool) ∧ Fresh w w'
theorem MkQ.cast {A : List Bool} {E : List Ed} {T : List (List UInt8)} {M : List Mg} {s : Int} {w : World} {e e2 : Ending} {w' : World} (h : MkQ A E T M s w e w') (he : e2 = e) : MkQ A E T M s w e2 w' := he ▸ h
theorem MkQ.bare {A : List Bool} {E : List Ed} {T : List (List UInt8)} {M : List Mg} {s : Int} {w w' : World} {k : Int} (hE : mkE A E T M s = k) (hL : mkM A E T M s = []) (hk : Fresh w w') : MkQ A E T M s w (.returned (.tuple #[.slice none 0 0, zV k])) w' :=
  ⟨_, by rw [hE], by rw [hL]; exact own_nil _ _ _, hk⟩
theorem MkQ.empty {A : List Bool} {E : List Ed} {T : List (List UInt8)} {M : List Mg} {s : Int} {w X : World} {k : Int} (hE : mkE A E T M s = k) (hL : mkM A E T M s = []) (hk : Fresh w X) : MkQ A E T M s w (.returned (.tuple #[.slice (some ⟨X.heap.size, 0, none⟩) 0 0, zV k])) (X.alloc (.cells #[] 4)) :=
  ⟨_, by rw [hE], by rw [hL]; exact own_low (own_empty X _ (Nat.le_refl _) _) hk.size, hk.alloc _⟩
set_option maxHeartbeats 1000000 in
set_option maxRecDepth 100000 in
theorem gmask_any {p q : Nat → Prop} (A : List Bool) (E : List Ed) (T : List (List UInt8)) (M : List Mg) (an en tv mv : Value) (w : World) (hA : RbL p w an A) (hE : EdR p w en E) (hT : TxR q w tv T) (hM : MgR q w mv M) (s : Int) :
    Calls Try.prog 20 #[.agg #[an, en], .agg #[tv, mv], zV s] w fun e w' => MkQ A E T M s w e w' := by
  have HB := show Hid _ from box2 w #[an, en] #[tv, mv] 25 49
  have HVC : Hid (∀ X, Fresh w X → Calls Try.prog 36 #[.agg #[tv, mv]] X fun e X' => e = .returned (.tuple #[zV (vcP T M), zV (vcE T M)]) ∧ Fresh X X') := fun X hX => vcheck_any X tv mv T M (hT.fresh hX) (hM.fresh hX)
  have HMO : Hid (∀ X, Fresh w X → Calls Try.prog 28 #[.agg #[an, en]] X fun e w' => MoQ A E X e w') := fun X hX => machineOf_any A E an en X (hA.fresh hX) (hE.fresh hX)
  have HTX : Hid (∀ X, Fresh w X → TxR q X tv T) := fun X hX => hT.fresh hX
  have HQ1 : Hid (∀ X, vcE T M ≠ 0 → Fresh w X → MkQ A E T M s w (.returned (.tuple #[.slice none 0 0, zV (vcE T M)])) X) := fun X h hX => MkQ.bare (mk_bad1 h).1 (mk_bad1 h).2 hX
  have HQ2 : Hid (∀ X, vcE T M = 0 → chE A E ≠ 0 → Fresh w X → MkQ A E T M s w (.returned (.tuple #[.slice none 0 0, zV (chE A E)])) X) := fun X h h2 hX => MkQ.bare (mk_bad2 h h2).1 (mk_bad2 h h2).2 hX
  have HQ3 : Hid (∀ X, vcE T M = 0 → chE A E = 0 → ¬ DmS A s → Fresh w X → MkQ A E T M s w (.returned (.tuple #[.slice none 0 0, zV 1])) X) := fun X h h2 h3 hX => MkQ.bare (mk_bad3 h h2 h3).1 (mk_bad3 h h2 h3).2 hX
  have HQ4 : Hid (∀ X X' g, vcE T M = 0 → chE A E = 0 → DmS A s → Fresh w X → X'.ownsRow X.heap.size 4 1 (.slice (some ⟨g, 0, none⟩) T.length T.length) T.length ((msF (mkB T.length (myF (mF A E) (nA A) T s))).map Value.bool) → Fresh X X' → MkQ A E T M s w (.returned (.tuple #[.slice (some ⟨g, 0, none⟩) T.length T.length, zV 0])) X') := fun X X' g h h2 h3 hX ho hX' => by
    obtain ⟨k1, k2⟩ := mk_ok (s := s) h h2 h3
    refine ⟨_, by rw [k1], ?_, hX.trans hX' (fun _ _ e => e)⟩
    rw [k2, msF_len, mkB_len]
    exact own_low ho hX.size
  have HMK : Hid (vcE T M = 0 → DmS A s → ∀ (X : World) (B b : Nat) (av sv : Value), Fresh w X → MaAt B X b av sv (nA A) (nA A).length (mF A E) → Calls Try.prog 37 #[.pointer (some ⟨b, 0, none⟩), tv, zV s] X fun e w' => ∃ g, e = .returned (.slice (some ⟨g, 0, none⟩) T.length T.length) ∧ w'.ownsRow X.heap.size 4 1 (.slice (some ⟨g, 0, none⟩) T.length T.length) T.length ((msF (mkB T.length (myF (mF A E) (nA A) T s))).map Value.bool) ∧ Fresh X w') := fun h1 h2 X B b av sv hX hm => by
    have hw := wrT_good (vcE_zero h1).1
    exact mask_mach hm (nA_pos A) T tv (hT.fresh hX) (good_64 (vcE_zero h1).1) ⟨by omega, by omega⟩ s h2
  have HHS : Hid (∀ (X : World) (B b : Nat) (av sv : Value), MaAt B X b av sv (nA A) (nA A).length (mF A E) → Calls Try.prog 33 #[.pointer (some ⟨b, 0, none⟩), zV s] X fun e w' => e = .returned (.bool (decide (0 ≤ s) && decide (s < ((nA A).length : Int)))) ∧ w' = X) := fun X B b av sv hm => has_any hm s
  obtain ⟨ta, tc, rfl⟩ := hT.shape
  obtain ⟨ma, mc, rfl⟩ := hM.shape
  obtain ⟨ao, ac, rfl⟩ := hA.shape
  obtain ⟨eo, ec, rfl⟩ := hE.shape
  clear hA hE hT hM
  unfold MoQ at HMO
  have HDM : Hid (DmS A s ↔ s = -1 ∨ (0 ≤ s ∧ s < ((nA A).length : Int))) := Iff.rfl
  generalize mkB T.length (myF (mF A E) (nA A) T s) = L0 at *
  generalize DmS A s = D at *
  generalize MkQ A E T M s = Q at *
  generalize vcE T M = ce at *
  generalize vcP T M = cp at *
  generalize chE A E = ge at *
  generalize chP A E = gp at *
  go_enter Try.func20, Try.ntmps20
  go_upto_region 1 with fail
  have HK0 : Hid (Fresh ((w.alloc (.cells #[.slice ao A.length ac, .slice eo E.length ec] 25)).alloc (.cells #[.slice ta T.length tc, .slice ma M.length mc] 49)) ((w.alloc (.cells #[.slice ao A.length ac, .slice eo E.length ec] 25)).alloc (.cells #[.slice ta T.length tc, .slice ma M.length mc] 49))) := Kept.refl _ _
  generalize (w.alloc (.cells #[.slice ao A.length ac, .slice eo E.length ec] 25)).alloc (.cells #[.slice ta T.length tc, .slice ma M.length mc] 49) = W1 at *
  have HX : Hid (∀ X, Fresh W1 X → Fresh w X ∧ X.cell? ⟨w.heap.size, 0, none⟩ = some (.slice ao A.length ac) ∧ X.cell? ⟨w.heap.size, 1, none⟩ = some (.slice eo E.length ec) ∧ X.cell? ⟨w.heap.size + 1, 0, none⟩ = some (.slice ta T.length tc) ∧ X.cell? ⟨w.heap.size + 1, 1, none⟩ = some (.slice ma M.length mc)) := fun X hk => by
    obtain ⟨hf1, hb0, hb1⟩ := HB.out X hk
    exact ⟨hf1, by rw [Lib.cell_of_heap hb0]; rfl, by rw [Lib.cell_of_heap hb0]; rfl, by rw [Lib.cell_of_heap hb1]; rfl, by rw [Lib.cell_of_heap hb1]; rfl⟩
  clear HB
  obtain ⟨hf1, x0, x1, x2, x3⟩ := HX.out W1 HK0.out
  have HV1 := show Hid _ from HVC.out W1 hf1
  clear hf1 HVC HK0
  go_wp2_with fail
  refine Calls.mono HV1.out ?_
  rintro e W2 ⟨rfl, hf2⟩
  obtain ⟨hf2w, x0, x1, x2, x3⟩ := HX.out W2 hf2
  have HF2 : Hid (Fresh W1 W2 ∧ Fresh w W2) := ⟨hf2, hf2w⟩
  clear hf2 hf2w HV1
  by_cases hc : ce = 0
  · subst hc
    have HM1 := show Hid _ from HMO.out W2 HF2.out.2
    clear HQ1 HMO
    go_wp2_with fail
    refine Calls.mono HM1.out ?_
    rintro e W3 ⟨hf3, hcases⟩
    have HF3 : Hid (Fresh W1 W3) := HF2.out.1.trans hf3 (fun _ _ e => e)
    obtain ⟨hf3w, x0, x1, x2, x3⟩ := HX.out W3 HF3.out
    have HF3w : Hid (Fresh w W3) := hf3w
    clear hf3 hf3w HM1 HF2
    rcases hcases with ⟨hne, rfl⟩ | ⟨hz, b, av, sv, rfl, hm⟩
    · have hne2 : ((ge : Int) != 0) = true := bne_iff_ne.2 (by omega)
      have HQ : Hid (Q w (.returned (.tuple #[.slice none 0 0, zV ge])) W3) := HQ2.out W3 (by simp) hne HF3w.out
      clear HQ2 HQ3 HQ4 HMK HHS HDM HTX
      go_wp2
      exact HQ.out
    · subst hz
      have HH := show Hid _ from HHS.out W3 _ b av sv hm
      have HMQ : Hid (D → _) := fun hd => HMK.out (by simp) hd W3 _ b av sv HF3w.out hm
      clear HQ2 HMK HHS HTX hm
      by_cases hs1 : s = -1
      · have hD : D := HDM.out.2 (.inl hs1)
        have HMQ2 := show Hid _ from HMQ.out hD
        have HQ : Hid (∀ X' g, _) := fun X' g => HQ4.out W3 X' g (by simp) (by simp) hD HF3w.out
        clear HMQ HQ4 HQ3 HDM hD HH
        subst hs1
        go_wp2_with fail
        refine Calls.mono HMQ2.out ?_
        rintro e W4 ⟨g, rfl, ho, hf4⟩
        have HZ : Hid _ := HQ.out W4 g ho hf4
        clear ho hf4 HQ HMQ2
        go_wp2
        exact HZ.out
      · have hs2 : (s != -1) = true := bne_iff_ne.2 hs1
        by_cases hin : 0 ≤ s ∧ s < ((nA A).length : Int)
        · have hD : D := HDM.out.2 (.inr hin)
          have hbool : (decide (0 ≤ s) && decide (s < ((nA A).length : Int))) = true := by simp [hin.1, hin.2]
          rw [hbool] at HH
          have HMQ2 := show Hid _ from HMQ.out hD
          have HQ : Hid (∀ X' g, _) := fun X' g => HQ4.out W3 X' g (by simp) (by simp) hD HF3w.out
          clear HMQ HQ4 HQ3 HDM hD hin hbool
          go_wp2_with fail
          refine Calls.mono HH.out ?_
          rintro e W5 ⟨rfl, rfl⟩
          clear HH
          go_wp2_with fail
          refine Calls.mono HMQ2.out ?_
          rintro e W4 ⟨g, rfl, ho, hf4⟩
          have HZ : Hid _ := HQ.out W4 g ho hf4
          clear ho hf4 HQ HMQ2
          go_wp2
          exact HZ.out
        · have hD : ¬ D := fun e => by
            rcases HDM.out.1 e with e | e
            · exact hs1 e
            · exact hin e
          have hbool : (decide (0 ≤ s) && decide (s < ((nA A).length : Int))) = false := by
            rw [Bool.eq_false_iff]
            intro e
            simp only [Bool.and_eq_true, decide_eq_true_eq] at e
            exact hin e
          rw [hbool] at HH
          have HQ : Hid (Q w (.returned (.tuple #[.slice none 0 0, zV 1])) W3) := HQ3.out W3 (by simp) (by simp) hD HF3w.out
          clear HMQ HQ4 HQ3 HDM hD hin hbool
          go_wp2_with fail
          refine Calls.mono HH.out ?_
          rintro e W5 ⟨rfl, rfl⟩
          clear HH
          go_wp2
          exact HQ.out
  · have hne : ((ce : Int) != 0) = true := bne_iff_ne.2 hc
    have HQ : Hid (Q w (.returned (.tuple #[.slice none 0 0, zV ce])) W2) := HQ1.out W2 hc HF2.out.2
    clear HQ1 HQ2 HQ3 HQ4 HMK HHS HDM HTX HMO
    go_wp2
    exact HQ.out
end Go.Proofs.Ytdponkpgokncdaa
