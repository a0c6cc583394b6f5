/-
  The document's half, Held.
-/
import Derived.Test.YtomeoklhjdgaoaaDoorStm
namespace Go.Proofs.YtomeoklhjdgaoaaDoor
open Go.RowKit Go.Lib Go.Maps

set_option maxHeartbeats 2000000 in
set_option maxRecDepth 100000 in
theorem refHalf_any (l : List UInt8) (w : World) (hl : l.length ≤ 1099511627776) :
    Calls Tryd.prog 63 #[sV l] w fun e w' => e = .returned (.bool (hfL l)) ∧ Fresh w w' := by
  have HH := show Hid _ from hf_ft l
  have HFt := show Hid _ from refFits_any l w hl
  have hszr : (⟨l.toArray⟩ : ByteArray).size = l.length := len_l l
  have HSz : Hid (∀ W, Calls Tryd.prog 29 #[.int .u8 ((bN l 0 : Nat) : Int)] W fun e w' => e = .returned (zV (szN (bN l 0))) ∧ w' = W) := fun W => refSize_any _ W (bN_lt l 0)
  by_cases h0 : l = []
  · subst h0
    have hR : Hid (hfL [] = false) := by show _ = _; decide
    clear HH HFt HSz
    go_enter Tryd.func63, Tryd.ntmps63
    go_wp2
    go_ret
    exact ⟨by rw [hR.out]; simp, Kept.refl _ _⟩
  have hE := emp_false h0
  have hlp := List.length_pos_iff.2 h0
  have hx0 : ((⟨l.toArray⟩ : ByteArray)[0]'(by rw [hszr]; exact hlp)).toNat = bN l 0 := get_l l 0 _
  have hlp' : (0 : Int) < (l.length : Int) := by omega
  have hs4 := szN_le (bN l 0)
  have hf4 : ftF l ≤ 4 := (ft_spec l).1
  by_cases h1 : ftF l = l.length
  · have hc1 : ((ftF l : Int) == (l.length : Int)) = true := beq_iff_eq.2 (by omega)
    have hR : Hid (hfL l = decide ((l.length : Int) < (szN (bN l 0) : Int))) := by
      show _ = _
      rw [Bool.eq_iff_iff, HH.out, decide_eq_true_iff]
      exact ⟨fun h => by omega, fun h => ⟨h0, h1, by omega⟩⟩
    have CS := show Hid _ from HSz.out
    clear HH h1 h0 HSz
    generalize hfL l = R at *
    generalize ftF l = f at *
    generalize szN (bN l 0) = s at *
    go_enter Tryd.func63, Tryd.ntmps63
    go_wp2_with fail
    refine Calls.mono HFt.out ?_
    rintro e' W1 ⟨rfl, hF1⟩
    have HF1 : Hid (Fresh w W1) := hF1
    have CS1 := show Hid _ from CS.out W1
    clear HFt hF1 CS
    go_wp2_with fail
    refine Calls.mono CS1.out ?_
    rintro e' W2 ⟨rfl, hW⟩
    have hW' := hW.symm
    subst hW'
    clear CS1 hW
    go_wp2
    go_ret
    exact ⟨by rw [hR.out]; simp, HF1.out⟩
  · have hc1 : ((ftF l : Int) == (l.length : Int)) = false := beq_eq_false_iff_ne.2 (by omega)
    have hR : Hid (hfL l = false) := by
      show _ = _
      cases e : hfL l with
      | false => rfl
      | true => exact absurd (HH.out.1 e).2.1 h1
    clear HH h1 h0 HSz
    generalize hfL l = R at *
    generalize ftF l = f at *
    go_enter Tryd.func63, Tryd.ntmps63
    go_wp2_with fail
    refine Calls.mono HFt.out ?_
    rintro e' W1 ⟨rfl, hF1⟩
    have HF1 : Hid (Fresh w W1) := hF1
    clear HFt hF1
    go_wp2
    go_ret
    exact ⟨by rw [hR.out]; simp, HF1.out⟩
set_option maxHeartbeats 4000000 in
set_option maxRecDepth 100000 in
theorem refHeld_any {p : Nat → Prop} (T : List (List UInt8)) (l : List UInt8) (v : Value) (w : World) (hl : l.length ≤ 16777216) (hR : TxR p w v T) (hT : GdT T) :
    Calls Tryd.prog 53 #[v, sV l] w fun e w' => e = .returned (sV (hldF T l)) ∧ Fresh w w' := by
  obtain ⟨ao, cap, rfl⟩ := hR.shape
  have HR : Hid (∀ W, Fresh w W → TxR p W (.slice ao T.length cap) T) := fun W hk => hR.fresh hk
  have h20 := hR.len
  have HEl : Hid (∀ i, i < T.length → (tX T i).length ≤ 1048576) := hR.each
  obtain ⟨k0, hk0, hk0l⟩ : ∃ k0 : Nat, k0 = l.length - 64 ∧ k0 ≤ l.length := ⟨_, rfl, by omega⟩
  have HE : Hid (∀ k, k ≤ l.length → (∀ j, j < k → cnd T (l.drop j) = false) → (k = l.length ∨ cnd T (l.drop k) = true) → hldF T l = l.drop k) := fun k h1 h2 h3 => hldF_at l k h1 h2 h3
  have HQ0 : Hid (∀ j, j < k0 → cnd T (l.drop j) = false) := fun j hj => by
    cases e : cnd T (l.drop j) with
    | false => rfl
    | true =>
      have := cnd_len hT e
      rw [List.length_drop] at this
      omega
  have HC : Hid (∀ k, k < l.length → (cnd T (l.drop k) = true ↔ hfL (l.drop k) = true ∨ ∃ j, j < T.length ∧ l.length - k < (tX T j).length ∧ (tX T j).take (l.length - k) = l.drop k)) := fun k hk => by
    rw [cnd_iff, List.length_drop]
    exact ⟨fun h => h.2, fun h => ⟨fun e => by have := congrArg List.length e; rw [List.length_drop] at this; simp at this; omega, h⟩⟩
  have HSl : Hid (∀ k, k ≤ l.length → ∀ w, (Instr.slice 9 (sV l) (some (.int .i64 (k : Int))) none none).run Tryd.prog w = .ok (sV (l.drop k)) w) := fun k hk w => slice_from l k hk w
  have HSx : Hid (∀ j k, l.length - k < (tX T j).length → k ≤ l.length → ∀ w, (Instr.slice 9 (sV (tX T j)) none (some (.int .i64 ((l.length : Int) - (k : Int)))) none).run Tryd.prog w = .ok (sV ((tX T j).take (l.length - k))) w) := fun j k h1 h2 w => by
    rw [show (l.length : Int) - (k : Int) = ((l.length - k : Nat) : Int) by omega]
    exact slice_to _ _ (by omega) w
  have HHf : Hid (∀ k W, Calls Tryd.prog 63 #[sV (l.drop k)] W fun e w' => e = .returned (.bool (hfL (l.drop k))) ∧ Fresh W w') := fun k W => refHalf_any (l.drop k) W (by rw [List.length_drop]; omega)
  have hmax : max (0 : Int) ((l.length : Int) - 64) = (k0 : Int) := by omega
  have hll : (⟨l.toArray⟩ : ByteArray).size = l.length := len_l l
  have HNil : Hid (l.drop l.length = []) := List.drop_length
  clear hR hT
  generalize hldF T l = R at *
  generalize T.length = tn at *
  generalize l.length = ln at *
  go_enter Tryd.func53, Tryd.ntmps53
  go_wp2
  go_loopw [5] (fun kv wr => ∃ k : Nat, k ≤ ln ∧ kv = zV k ∧ Hid (Fresh w wr) ∧ Hid (∀ j, j < k → cnd T (l.drop j) = false)) (fun kv _ => ln - (RowKit.intOf kv).toNat)
  case atStart => exact ⟨k0, hk0l, by first | rw [hk0] | rw [hmax], Kept.refl _ _, HQ0⟩
  case round =>
    obtain ⟨k, hk, rfl, HF, HQ⟩ := hrel
    clear HQ0 hmax hk0 hk0l
    by_cases hlt : k < ln
    · have hlt' : (k : Int) < (ln : Int) := by omega
      have hsl := HSl.out k hk
      have HCf := show Hid _ from HHf.out k wr
      have HCk := show Hid _ from HC.out k hlt
      have HRes : Hid (cnd T (l.drop k) = true → R = l.drop k) := fun h => HE.out k hk HQ.out (.inr h)
      have HNx : Hid (cnd T (l.drop k) = false → ∀ j, j < k + 1 → cnd T (l.drop j) = false) := fun h j hj => by
        by_cases e : j = k
        · rw [e]; exact h
        · exact HQ.out j (by omega)
      have HSxk : Hid (∀ j, ln - k < (tX T j).length → ∀ w, (Instr.slice 9 (sV (tX T j)) none (some (.int .i64 ((ln : Int) - (k : Int)))) none).run Tryd.prog w = .ok (sV ((tX T j).take (ln - k))) w) := fun j h => HSx.out j k h hk
      clear HE HC HSl HSx HHf HQ
      generalize l.drop k = E at *
      generalize hfL E = hh at *
      go_wp2_with fail
      refine Calls.mono HCf.out ?_
      rintro e' W1 ⟨rfl, hF1⟩
      have HF1 : Hid (Fresh w W1) := HF.out.trans hF1 (fun _ _ e => e)
      clear HCf hF1 HF
      cases hh with
      | true =>
        have hR : Hid (R = E) := HRes.out (HCk.out.2 (.inl rfl))
        clear HRes HNx HCk
        go_wp2
        go_ret
        exact ⟨by rw [hR.out]; rfl, HF1.out⟩
      | false =>
        go_wp2
        go_loopw [27] (fun iv wr' => ∃ i : Nat, i ≤ tn ∧ iv = zV i ∧ Hid (Fresh w wr') ∧ Hid (∀ j, j < i → ¬ (ln - k < (tX T j).length ∧ (tX T j).take (ln - k) = E))) (fun iv _ => tn - (RowKit.intOf iv).toNat)
        case atStart => exact ⟨0, Nat.zero_le _, rfl, HF1, fun j hj => absurd hj (Nat.not_lt_zero _)⟩
        case round =>
          obtain ⟨i, hi, rfl, HF2, HI⟩ := hrel
          by_cases hli : i < tn
          · have hli' : (i : Int) < (tn : Int) := by omega
            obtain ⟨b, off, rfl, _, hbl, hcell⟩ := (HR.out _ HF2.out).cells.2.2 (by omega)
            have c0 := hcell i hli
            have hsx := HSxk.out i
            have hxl := HEl.out i hli
            have hxs : (⟨(tX T i).toArray⟩ : ByteArray).size = (tX T i).length := len_l _
            have HIt : Hid (ln - k < (tX T i).length ∧ (tX T i).take (ln - k) = E → R = E) := fun h => HRes.out (HCk.out.2 (.inr ⟨i, hli, h⟩))
            have HIn : Hid (¬ (ln - k < (tX T i).length ∧ (tX T i).take (ln - k) = E) → ∀ j, j < i + 1 → ¬ (ln - k < (tX T j).length ∧ (tX T j).take (ln - k) = E)) := fun h j hj => by
              by_cases e : j = i
              · rw [e]; exact h
              · exact HI.out j (by omega)
            clear hcell HI
            generalize hy : (tX T i).take (ln - k) = y at *
            clear hy
            generalize tX T i = x at *
            by_cases g1 : ln - k < x.length
            · have hsx2 := hsx g1
              have d1 : decide ((ln : Int) - (k : Int) < (x.length : Int)) = true := decide_eq_true (by omega)
              clear hsx
              by_cases g2 : y = E
              · subst g2
                have hR : Hid (R = y) := HIt.out ⟨g1, rfl⟩
                have hyy : (y == y) = true := beq_self_eq_true _
                clear HIt HIn HRes HNx HCk
                go_wp2
                go_quiet (fail)
                go_wp2
                go_ret
                exact ⟨by rw [hR.out]; rfl, HF2.out.drewN _⟩
              · have hI2 := show Hid _ from HIn.out (fun h => g2 h.2)
                have hyE : (y == E) = false := beq_eq_false_iff_ne.2 g2
                clear HIt HIn g2
                go_wp2
                go_quiet (fail)
                go_wp2
                go_roundw
                case rel => exact ⟨i + 1, by omega, by go_num, HF2.out.drewN _, hI2⟩
                case measure => simp [RowKit.intOf]; omega
            · have hI2 := show Hid _ from HIn.out (fun h => g1 h.1)
              have d1 : decide ((ln : Int) - (k : Int) < (x.length : Int)) = false := decide_eq_false (by omega)
              clear HIt HIn hsx
              go_wp2
              go_quiet (fail)
              go_wp2
              go_roundw
              case rel => exact ⟨i + 1, by omega, by go_num, HF2.out.drewN _, hI2⟩
              case measure => simp [RowKit.intOf]; omega
          · have hli' : ¬ (i : Int) < (tn : Int) := by omega
            have HQ2 := show Hid _ from HNx.out (by
              cases e : cnd T E with
              | false => rfl
              | true =>
                rcases HCk.out.1 e with h | ⟨j, hj, h⟩
                · cases h
                · exact absurd h (HI.out j (by omega)))
            clear HNx HRes HCk HI HSxk
            go_wp2
            go_roundw
            case rel => exact ⟨k + 1, by omega, by go_num, HF2, HQ2⟩
            case measure => simp [RowKit.intOf]; omega
    · have hin : k = ln := by omega
      subst hin
      have hR : Hid (R = []) := (HE.out k (Nat.le_refl _) HQ.out (.inl rfl)).trans HNil.out
      have hlt' : ¬ (k : Int) < (k : Int) := by omega
      clear HE HC HSl HSx HHf HQ
      go_wp2
      go_ret
      exact ⟨by rw [hR.out]; rfl, HF.out⟩
end Go.Proofs.YtomeoklhjdgaoaaDoor
