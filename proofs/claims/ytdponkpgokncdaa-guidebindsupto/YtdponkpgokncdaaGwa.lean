/-
  What is behind a token: the machine's next; the machine of a guide beside a vocabulary.
-/
import Derived.Test.YtdponkpgokncdaaGuz
import Derived.Test.YtdponkpgokncdaaGuq
namespace Go.Proofs.Ytdponkpgokncdaa
open Go.RowKit Go.Lib Go.Maps

set_option maxHeartbeats 500000 in
set_option maxRecDepth 100000 in
theorem next_mach {B : Nat} {W : World} {b : Nat} {av sv : Value} {A : List Bool} {n : Nat} {f : Nat → Nat → Int} {q : Nat → Prop} (h : MaAt B W b av sv A n f) (T : List (List UInt8)) (tv : Value) (hT : TxR q W tv T) (h64 : ∀ i, i < T.length → (gT T i).length ≤ 64) (s : Int) (hs : s = -1 ∨ (0 ≤ s ∧ s < (n : Int))) (k : Int) :
    Calls Try.prog 39 #[.pointer (some ⟨b, 0, none⟩), tv, zV s, zV k] W fun e w' => e = .returned (zV (if 0 < k ∧ k < (T.length : Int) then wkF f s (gT T k.toNat) else -1)) ∧ w' = W := by
  have HWK : Hid (∀ i, i < T.length → Calls Try.prog 34 #[.pointer (some ⟨b, 0, none⟩), zV s, sV (gT T i)] W fun e w' => e = .returned (zV (wkF f s (gT T i))) ∧ w' = W) := fun i hi => by
    have hl := h64 i hi
    have h2 := walk_mach h s hs ⟨(gT T i).toArray⟩ (by simp only [ByteArray.size, List.size_toArray]; omega)
    simpa using h2
  obtain ⟨ta, tc, rfl⟩ := hT.shape
  obtain ⟨_, _, hcell⟩ := hT.cells
  have HCL : Hid _ := hcell
  clear hcell hT h64 h
  generalize hn : T.length = m at *
  clear hn
  by_cases hk0 : k < 1
  · rw [if_neg (by omega)]
    clear HWK HCL
    go_enter Try.func39, Try.ntmps39
    go_wp2
    go_ret
    exact ⟨rfl, rfl⟩
  · by_cases hkn : (m : Int) ≤ k
    · rw [if_neg (by omega)]
      clear HWK HCL
      go_enter Try.func39, Try.ntmps39
      go_wp2
      go_ret
      exact ⟨rfl, rfl⟩
    · rw [if_pos (by omega)]
      obtain ⟨i, rfl⟩ : ∃ i : Nat, k = (i : Int) := ⟨k.toNat, by omega⟩
      have hin : i < m := by omega
      rw [Int.toNat_natCast]
      have HK := show Hid _ from HWK.out i hin
      obtain ⟨bb, off, hta, _, hlt, hcc⟩ := HCL.out (by omega)
      subst hta
      have c0 := hcc i hin
      have hin' : (i : Int) < (m : Int) := by omega
      have h0i : (0 : Int) ≤ (i : Int) := by omega
      clear HWK HCL hcc hlt
      generalize gT T i = tx at *
      generalize wkF f s tx = z at *
      go_enter Try.func39, Try.ntmps39
      go_wp2_with fail
      refine Calls.mono HK.out ?_
      rintro e X ⟨rfl, rfl⟩
      go_wp2
      go_ret
      exact ⟨rfl, rfl⟩
/-- What together answers. -/
def TgQ (A : List Bool) (E : List Ed) (T : List (List UInt8)) (M : List Mg) (w : World) (e : Ending) (w' : World) : Prop :=
  Fresh w w' ∧ ((¬ (vcE T M = 0 ∧ chE A E = 0) ∧ e = .returned (.tuple #[.pointer none, .bool false])) ∨ (vcE T M = 0 ∧ chE A E = 0 ∧ ∃ B b av sv, e = .returned (.tuple #[.pointer (some ⟨b, 0, none⟩), .bool true]) ∧ MaAt B w' b av sv (nA A) (nA A).length (mF A E)))
theorem TgQ.cast {A : List Bool} {E : List Ed} {T : List (List UInt8)} {M : List Mg} {w : World} {e e2 : Ending} {w' : World} (h : TgQ A E T M w e w') (he : e2 = e) : TgQ A E T M w e2 w' := he ▸ h
set_option maxHeartbeats 500000 in
set_option maxRecDepth 100000 in
theorem together_any {p q : Nat → Prop} (A : List Bool) (E : List Ed) (T : List (List UInt8)) (M : List Mg) (an en tv mv : Value) (w : World) (hA : RbL p w an A) (hE : EdR p w en E) (hT : TxR q w tv T) (hM : MgR q w mv M) :
    Calls Try.prog 38 #[.agg #[an, en], .agg #[tv, mv]] w fun e w' => TgQ A E T M w e w' := by
  have hF1 : Fresh w ((w.alloc (.cells #[an, en] 25)).alloc (.cells #[tv, mv] 49)) := ((Kept.refl _ w).alloc _).alloc _
  have HC := show Hid _ from vcheck_any _ tv mv T M (hT.fresh hF1) (hM.fresh hF1)
  have HB := show Hid _ from box2 w #[an, en] #[tv, mv] 25 49
  have HMO : Hid (∀ X, Fresh w X → Calls Try.prog 28 #[.agg #[an, en]] X fun e w' => MoQ A E X e w') := fun X hX => machineOf_any A E an en X (hA.fresh hX) (hE.fresh hX)
  obtain ⟨ta, tc, rfl⟩ := hT.shape
  obtain ⟨ma, mc, rfl⟩ := hM.shape
  obtain ⟨ao, ac, rfl⟩ := hA.shape
  obtain ⟨eo, ec, rfl⟩ := hE.shape
  clear hA hE hF1 hT hM
  unfold MoQ at HMO
  have HTN : Hid (∀ X, ¬ (vcE T M = 0 ∧ chE A E = 0) → Fresh w X → TgQ A E T M w (.returned (.tuple #[.pointer none, .bool false])) X) := fun X h1 h2 => ⟨h2, .inl ⟨h1, rfl⟩⟩
  have HTY : Hid (∀ X (B b : Nat) av sv, vcE T M = 0 → chE A E = 0 → Fresh w X → MaAt B X b av sv (nA A) (nA A).length (mF A E) → TgQ A E T M w (.returned (.tuple #[.pointer (some ⟨b, 0, none⟩), .bool true])) X) := fun X B b av sv h1 h2 h3 h4 => ⟨h3, .inr ⟨h1, h2, B, b, av, sv, rfl, h4⟩⟩
  generalize vcE T M = ce at *
  generalize vcP T M = cp at *
  generalize chE A E = ge at *
  generalize chP A E = gp at *
  generalize A.length = na at *
  generalize E.length = ne at *
  generalize M.length = nm at *
  generalize T.length = n at *
  go_enter Try.func38, Try.ntmps38
  go_wp2_with fail
  refine Calls.mono HC.out ?_
  rintro e X ⟨rfl, hf⟩
  obtain ⟨hfw, hb0, hb1⟩ := HB.out X hf
  have x0 : X.cell? ⟨w.heap.size, 0, none⟩ = some (.slice ao na ac) := by rw [Lib.cell_of_heap hb0]; rfl
  have x1 : X.cell? ⟨w.heap.size, 1, none⟩ = some (.slice eo ne ec) := by rw [Lib.cell_of_heap hb0]; rfl
  have HF := show Hid _ from hfw
  have HMX := show Hid _ from HMO.out X hfw
  clear hf HC hb0 hb1 hfw HB HMO
  by_cases hc : ce = 0
  · subst hc
    go_wp2_with fail
    refine Calls.mono HMX.out ?_
    rintro e X2 ⟨hf2, hh⟩
    have HF2 : Hid (Fresh w X2) := HF.out.trans hf2 (fun _ _ e => e)
    clear hf2 HMX HF
    rcases hh with ⟨hne, rfl⟩ | ⟨hz, b, av, sv, rfl, hm⟩
    · have hne' : ((ge : Int) == 0) = false := beq_eq_false_iff_ne.2 (by omega)
      have HNE : Hid (ge ≠ 0) := hne
      clear hne
      go_wp2
      go_ret2
      exact (HTN.out _ (fun e => HNE.out e.2) HF2.out).cast rfl
    · subst hz
      have HMA := show Hid _ from hm
      clear hm
      go_wp2
      go_ret2
      exact (HTY.out _ _ b av sv (by simp) (by simp) HF2.out HMA.out).cast rfl
  · have hcc : (ce != 0) = true := bne_iff_ne.2 hc
    have HNE : Hid (ce ≠ 0) := hc
    clear HMX hc
    go_wp2
    go_ret2
    exact (HTN.out _ (fun e => HNE.out e.1) HF.out).cast rfl
end Go.Proofs.Ytdponkpgokncdaa
