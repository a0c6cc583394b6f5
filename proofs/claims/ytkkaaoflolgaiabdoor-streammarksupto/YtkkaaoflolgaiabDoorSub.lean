/-
  Marks: the document's.
-/
import Derived.Test.YtkkaaoflolgaiabDoorSua
namespace Go.Proofs.YtkkaaoflolgaiabDoor
open Go.ChangeShapes Go.WideShapes Go.ChangeAt Go.RowKit Go.Lib Go.Maps

/-- One int behind a row of one's own. -/
theorem int_push {W : World} {B : Nat} {mv : Value} {L : List Int} (z : Int) (w : World) (hown : W.ownsRow B 3 1 mv L.length (L.map zV)) (hB : w.heap.size ≤ B) (hBW : B ≤ W.heap.size) (hL : L.length ≤ 1048577) (hF : Fresh w W) :
    ∃ ao n cp W', (Builtin.append_ #[24, 24] 24 #[mv, .slice (some ⟨W.heap.size, 0, none⟩) 1 1]).run Tryd.prog (W.alloc (.cells #[zV z] 3)) = .ok (.slice ao n cp) W' ∧
      W'.ownsRow B 3 1 (.slice ao n cp) (L ++ [z]).length ((L ++ [z]).map zV) ∧ Fresh w W' := by
  obtain ⟨v', X', h1, h2, h3⟩ := pushI W B mv L z hown hL hBW
  obtain ⟨ao, cp, rfl⟩ := ownsRow_shape h2
  exact ⟨ao, _, cp, X', h1, h2, hF.trans h3 (fun i hi e => by have := (ownr_ge hown e).1; omega)⟩
set_option maxHeartbeats 4000000 in
set_option maxRecDepth 100000 in
theorem refMarks_any {p : Nat → Prop} (T : List (List UInt8)) (v : Value) (w : World) (hR : TxR p w v T) (hb : (caF T T.length).length ≤ 1048576) :
    Calls Tryd.prog 10 #[v] w fun e w' => ∃ rv, e = .returned rv ∧ InR (fun _ => True) w' rv (mkL T) ∧ Fresh w w' := by
  obtain ⟨ao, cap, rfl⟩ := hR.shape
  have h20 := hR.len
  have HR : Hid (∀ W, Fresh w W → TxR p W (.slice ao T.length cap) T) := fun W hk => hR.fresh hk
  have hel := hR.each
  have HEl : Hid (∀ i, i < T.length → (tX T i).length ≤ 1048576) := hel
  have HI : Hid (∀ i, i < T.length + 1 → I64 (gI (mkL T) i)) := fun i hi => by have := mkL_bd T hb i hi; exact ⟨by omega, by omega⟩
  have HCa : Hid (∀ i, i ≤ T.length → (caF T i).length ≤ 1048576) := fun i hi => by
    have h3 := caF_le (T := T) (i := i) (n := T.length) hi
    omega
  have hl0 : Hid (mkL T = mk0 T T.length ++ [((clL (caF T T.length)).length : Int)]) := rfl
  have HLen : Hid ((mkL T).length ≤ 1048577) := by show _ ≤ _; rw [mkL_len]; omega
  have HF0 : Hid (Fresh w (w.alloc (.cells #[] 3))) := (Kept.refl _ w).alloc _
  have HO0 : Hid ((w.alloc (.cells #[] 3)).ownsRow w.heap.size 3 1 (.slice (some ⟨w.heap.size, 0, none⟩) 0 0) (mk0 T 0).length ((mk0 T 0).map zV)) := own_empty w _ (Nat.le_refl _) _
  have HHd : Hid (∀ (A : List UInt8) (W : World), A.length ≤ 1048576 → Calls Tryd.prog 27 #[.slice (some ⟨W.heap.size, 0, none⟩) 0 0, sV A] (W.alloc (.cells #[] 9)) fun e w' => e = .returned (sV (hldF [] A)) ∧ Fresh W w') := fun A W hA => by
    have hX : TxR (fun _ => True) (W.alloc (.cells #[] 9)) (.slice (some ⟨W.heap.size, 0, none⟩) 0 0) [] := ⟨some ⟨W.heap.size, 0, none⟩, 0, rfl, fun e => (by cases e), Nat.le_refl _, fun i hi => absurd hi (Nat.not_lt_zero _), by simp, fun h => absurd h (Nat.lt_irrefl _)⟩
    have hf : Fresh W (W.alloc (.cells #[] 9)) := (Kept.refl _ W).alloc _
    exact (refHeld_any [] A _ _ (by omega) hX gdT_nil).mono (fun e W' ⟨he, hk⟩ => ⟨he, hf.trans hk (fun _ _ e => e)⟩)
  have HCl : Hid (∀ (A : List UInt8) (W : World), A.length ≤ 1048576 → Calls Tryd.prog 26 #[sV A] W fun e w' => e = .returned (sV (clL A)) ∧ Fresh W w') := fun A W hA => refClean_any A W (by omega)
  clear hR hel
  generalize hn : T.length = n at *
  have HT2 : Hid (T.length = n) := hn
  clear hn
  go_enter Tryd.func10, Tryd.ntmps10
  go_wp2
  go_loopw [3, 4, 10] (fun av mv iv wr => ∃ (i : Nat) (ma : Option Addr) (mn mc : Nat), i ≤ n ∧ iv = zV i ∧ av = sV (caF T i) ∧ mv = .slice ma mn mc ∧ Hid (wr.ownsRow w.heap.size 3 1 (.slice ma mn mc) (mk0 T i).length ((mk0 T i).map zV)) ∧ Hid (Fresh w wr)) (fun _ _ iv _ => n - (RowKit.intOf iv).toNat)
  case atStart => exact ⟨0, _, _, _, Nat.zero_le _, rfl, rfl, rfl, HO0, HF0⟩
  case round =>
    obtain ⟨i, ma, mn, mc, hi, rfl, rfl, rfl, HOwn, HF⟩ := hrel
    clear HF0 HO0
    by_cases hlt : i < n
    · have hlt' : (i : Int) < (n : Int) := by omega
      obtain ⟨bq, off, rfl, _, hbl, hcell⟩ := (HR.out wr HF.out).cells.2.2 (by omega)
      have c0 := hcell i hlt
      have hcat : (⟨(caF T i).toArray⟩ : ByteArray) ++ ⟨(tX T i).toArray⟩ = ⟨(caF T (i + 1)).toArray⟩ := cat_l _ _
      have hAl := HCa.out (i + 1) (by omega)
      have hA0l := HCa.out i hi
      have hA0s : (⟨(caF T i).toArray⟩ : ByteArray).size = (caF T i).length := len_l _
      have hxl := HEl.out i hlt
      have hxs : (⟨(tX T i).toArray⟩ : ByteArray).size = (tX T i).length := len_l _
      have hAs : (⟨(caF T (i + 1)).toArray⟩ : ByteArray).size = (caF T (i + 1)).length := len_l _
      have hHl := hldF_le [] (caF T (i + 1))
      have hHs : (⟨(hldF [] (caF T (i + 1))).toArray⟩ : ByteArray).size = (hldF [] (caF T (i + 1))).length := len_l _
      have hGs : (⟨(clL (goF [] (caF T (i + 1)))).toArray⟩ : ByteArray).size = mkN T (i + 1) := len_l _
      have hmkn : mkN T (i + 1) ≤ 3145728 := by
        have h1 := clL_le (goF [] (caF T (i + 1)))
        have h2 : (goF [] (caF T (i + 1))).length ≤ (caF T (i + 1)).length := by unfold goF; rw [List.length_take]; omega
        unfold mkN; omega
      have hsl : ∀ w, (Instr.slice 9 (sV (caF T (i + 1))) none (some (.int .i64 (((caF T (i + 1)).length : Int) - ((hldF [] (caF T (i + 1))).length : Int)))) none).run Tryd.prog w = .ok (sV (goF [] (caF T (i + 1)))) w := fun w => by
        rw [show ((caF T (i + 1)).length : Int) - ((hldF [] (caF T (i + 1))).length : Int) = (((caF T (i + 1)).length - (hldF [] (caF T (i + 1))).length : Nat) : Int) by omega]
        exact slice_to _ _ (by omega) w
      have HC1 := show Hid _ from HHd.out (caF T (i + 1)) wr hAl
      have HC2 : Hid (∀ W, Calls Tryd.prog 26 #[sV (goF [] (caF T (i + 1)))] W fun e w' => e = .returned (sV (clL (goF [] (caF T (i + 1))))) ∧ Fresh W w') := fun W => HCl.out _ W (by unfold goF; rw [List.length_take]; omega)
      have HP : Hid (∀ W, Fresh w W → Fresh wr W → ∃ ao n cp W', (Builtin.append_ #[24, 24] 24 #[.slice ma mn mc, .slice (some ⟨W.heap.size, 0, none⟩) 1 1]).run Tryd.prog (W.alloc (.cells #[zV (mkN T (i + 1))] 3)) = .ok (.slice ao n cp) W' ∧
          W'.ownsRow w.heap.size 3 1 (.slice ao n cp) (mk0 T (i + 1)).length ((mk0 T (i + 1)).map zV) ∧ Fresh w W') := fun W hk hk2 => int_push _ w (owns_kept HOwn.out hk2 (fun _ _ e => e)) (Nat.le_refl _) hk.size (by rw [mk0_len]; omega) hk
      clear hcell HOwn
      generalize tX T i = x at *
      generalize mkN T (i + 1) = mk at *
      generalize hqA : caF T (i + 1) = A at *
      have HqA : Hid (caF T (i + 1) = A) := hqA
      generalize caF T i = A0 at *
      generalize clL (goF [] A) = C at *
      generalize goF [] A = G at *
      generalize hldF [] A = H at *
      clear hqA
      go_wp2_with fail
      refine Calls.mono HC1.out ?_
      rintro e' W1 ⟨rfl, hF1⟩
      have HF1 : Hid (Fresh w W1) := HF.out.trans hF1 (fun _ _ e => e)
      have HG1 : Hid (Fresh wr W1) := hF1
      have HC3 := show Hid _ from HC2.out W1
      clear HC1 hF1 HF HC2
      go_wp2_with fail
      refine Calls.mono HC3.out ?_
      rintro e' W2 ⟨rfl, hF2⟩
      have HF2 : Hid (Fresh w W2) := HF1.out.trans hF2 (fun _ _ e => e)
      obtain ⟨a2, n2, k2, W3, hr2, ho2, hF3⟩ := HP.out W2 HF2.out (HG1.out.trans hF2 (fun _ _ e => e))
      have HOwn2 : Hid (W3.ownsRow w.heap.size 3 1 (.slice a2 n2 k2) (mk0 T (i + 1)).length ((mk0 T (i + 1)).map zV)) := ho2
      have HF3 : Hid (Fresh w W3) := hF3
      clear HC3 hF2 HF1 HG1 HP ho2 hF3 HF2
      go_wp2_with (at_builtin; refine Lib.wpList_append_run _ rfl _ _ _ _ rfl _ _ rfl rfl _ _ hr2 ?_)
      go_roundw
      case rel => exact ⟨i + 1, a2, n2, k2, by omega, by go_num, by rw [HqA.out], rfl, HOwn2, HF3⟩
      case measure => simp [RowKit.intOf]; omega
    · have hlt' : ¬ (i : Int) < (n : Int) := by omega
      have hin : i = n := by omega
      subst hin
      have hAl := HCa.out i (Nat.le_refl _)
      have hcl3 := clL_le (caF T i)
      have hCs : (⟨(clL (caF T i)).toArray⟩ : ByteArray).size = (clL (caF T i)).length := len_l _
      have HC := show Hid _ from HCl.out (caF T i) wr hAl
      have HL : Hid (mkL T = mk0 T i ++ [((clL (caF T i)).length : Int)]) := hl0.out
      have HP : Hid (∀ W, Fresh w W → Fresh wr W → ∃ ao n cp W', (Builtin.append_ #[24, 24] 24 #[.slice ma mn mc, .slice (some ⟨W.heap.size, 0, none⟩) 1 1]).run Tryd.prog (W.alloc (.cells #[zV ((clL (caF T i)).length : Int)] 3)) = .ok (.slice ao n cp) W' ∧
          W'.ownsRow w.heap.size 3 1 (.slice ao n cp) (mk0 T i ++ [((clL (caF T i)).length : Int)]).length ((mk0 T i ++ [((clL (caF T i)).length : Int)]).map zV) ∧ Fresh w W') := fun W hk hk2 => int_push _ w (owns_kept HOwn.out hk2 (fun _ _ e => e)) (Nat.le_refl _) hk.size (by rw [mk0_len]; omega) hk
      clear HOwn hl0 HHd HCl HCa
      generalize hq : clL (caF T i) = C at *
      clear hq
      generalize hqA : caF T i = A at *
      clear hqA
      go_wp2_with fail
      refine Calls.mono HC.out ?_
      rintro e' W1 ⟨rfl, hF1⟩
      have HF1 : Hid (Fresh w W1) := HF.out.trans hF1 (fun _ _ e => e)
      obtain ⟨a2, n2, k2, W2, hr2, ho2, hF2⟩ := HP.out W1 HF1.out hF1
      rw [← HL.out] at ho2
      have HI2 : Hid (InR (fun _ => True) W2 (.slice a2 n2 k2) (mkL T)) := (inr_of_own ho2 (fun q hq => HI.out q (by rw [mkL_len, HT2.out] at hq; exact hq)) HLen.out).any
      have HF2 : Hid (Fresh w W2) := hF2
      clear HC HP HL hF1 HF1 ho2 hF2 HF HI HLen
      go_wp2_with (at_builtin; refine Lib.wpList_append_run _ rfl _ _ _ _ rfl _ _ rfl rfl _ _ hr2 ?_)
      go_ret
      exact ⟨_, rfl, HI2.out, HF2.out⟩
end Go.Proofs.YtkkaaoflolgaiabDoor
