/-
  The document's Check.
-/
import Derived.Test.YtdponkpgokncdaaVoy
namespace Go.Proofs.Ytdponkpgokncdaa
open Go.RowKit Go.Lib Go.Maps

set_option maxHeartbeats 1000000 in
set_option maxRecDepth 100000 in
theorem refCheck_any {p : Nat → Prop} (w : World) (tv mv : Value) (T : List (List UInt8)) (M : List Mg) (hT : TxR p w tv T) (hM : MgR p w mv M) :
    Calls Try.prog 27 #[.agg #[tv, mv]] w fun e w' => e = .returned (.tuple #[zV (vcP T M), zV (vcE T M)]) ∧ Fresh w w' := by
  have HTx : Hid (∀ W i, i < T.length → Fresh w W → Calls Try.prog 40 #[.agg #[tv, mv], zV i] W fun e w' => e = .returned (.bool (!bdT T i)) ∧ Fresh W w') := fun W i hi hk => by
    obtain ⟨ma, mc, e⟩ := hM.shape
    exact text_any W tv mv T i hi (hT.fresh hk) ma _ mc e
  have HMg : Hid (wrT T = -1 → M.length ≤ 1024 → ∀ W i, i < M.length → Fresh w W → Calls Try.prog 41 #[.agg #[tv, mv], zV i] W fun e w' => e = .returned (.bool (!bdM T M i)) ∧ Fresh W w') := fun h0 h1 W i hi hk => merge_any W tv mv T M i hi (hT.fresh hk) (hM.fresh hk) (good_64 h0) (by omega)
  have hml : ∃ mc : Nat, M.length ≤ mc := ⟨_, Nat.le_refl _⟩
  have h16 := hT.len16
  obtain ⟨ta, tc, rfl⟩ := hT.shape
  obtain ⟨ma, mc, rfl⟩ := hM.shape
  have HPE : Hid (∀ P E, (wrT T ≠ -1 ∧ P = wrT T ∧ E = 130) ∨ (wrT T = -1 ∧ wrM T M ≠ -1 ∧ P = wrM T M ∧ E = 131) ∨ (wrT T = -1 ∧ wrM T M = -1 ∧ P = 0 ∧ E = 0) → vcP T M = P ∧ vcE T M = E) := fun P E h => by
    unfold vcP vcE
    rcases h with ⟨h1, rfl, rfl⟩ | ⟨h1, h2, rfl, rfl⟩ | ⟨h1, h2, rfl, rfl⟩
    · rw [if_pos h1, if_pos h1]; exact ⟨rfl, rfl⟩
    · rw [if_neg (by simpa using h1), if_pos h2, if_neg (by simpa using h1), if_pos h2]; exact ⟨rfl, rfl⟩
    · rw [if_neg (by simpa using h1), if_neg (by simpa using h2), if_neg (by simpa using h1), if_neg (by simpa using h2)]; exact ⟨rfl, rfl⟩
  have HWT : Hid ((512 < T.length → wrT T = 512) ∧ (¬ 512 < T.length → (∀ j, j < T.length → bdT T j = true → (∀ i, i < j → bdT T i = false) → wrT T = (j : Int)) ∧ ((∀ i, i < T.length → bdT T i = false) → wrT T = if T.length < 2 then (T.length : Int) else -1))) := by
    refine ⟨fun h => if_pos h, fun h => ⟨fun j h1 h2 h3 => ?_, fun h1 => ?_⟩⟩
    · unfold wrT; rw [if_neg h, fdF_some h1 h2 h3]
    · unfold wrT; rw [if_neg h, fdF_none h1]
  have HWM : Hid ((1024 < M.length → wrM T M = 1024) ∧ (¬ 1024 < M.length → (∀ j, j < M.length → bdM T M j = true → (∀ i, i < j → bdM T M i = false) → wrM T M = (j : Int)) ∧ ((∀ i, i < M.length → bdM T M i = false) → wrM T M = -1))) := by
    refine ⟨fun h => if_pos h, fun h => ⟨fun j h1 h2 h3 => ?_, fun h1 => ?_⟩⟩
    · unfold wrM; rw [if_neg h, fdF_some h1 h2 h3]
    · unfold wrM; rw [if_neg h, fdF_none h1]
  generalize vcP T M = P at *
  generalize vcE T M = E at *
  have hmmx : M.length ≤ mc := by
    obtain ⟨ao, cap, e, _, e2, _⟩ := hM
    injection e with _ _ e3
    omega
  clear hT hM hml
  generalize htt : T.length = tl at *
  generalize hmm : M.length = ml at *
  have HF1 : Hid (Fresh w (w.alloc (.cells #[.slice ta tl tc, .slice ma ml mc] 55))) := (Kept.refl _ w).alloc _
  have HB : Hid (∀ W, Fresh (w.alloc (.cells #[.slice ta tl tc, .slice ma ml mc] 55)) W → W.cell? ⟨w.heap.size, 0, none⟩ = some (.slice ta tl tc) ∧ W.cell? ⟨w.heap.size, 1, none⟩ = some (.slice ma ml mc)) := fun W hk => by
    have hz : w.heap.size < (w.alloc (.cells #[.slice ta tl tc, .slice ma ml mc] 55)).heap.size := by rw [World.size_alloc]; omega
    exact ⟨(hk.cell (p := ⟨w.heap.size, 0, none⟩) hz (fun e => e)).trans (by rw [World.cell?_alloc_new]; rfl), (hk.cell (p := ⟨w.heap.size, 1, none⟩) hz (fun e => e)).trans (by rw [World.cell?_alloc_new]; rfl)⟩
  generalize hW1 : w.alloc (.cells #[.slice ta tl tc, .slice ma ml mc] 55) = W1 at *
  obtain ⟨x0, x1⟩ := HB.out W1 (Kept.refl _ _)
  go_enter Try.func27, Try.ntmps27
  by_cases hbig : 512 < tl
  · have hbig' : (512 : Int) < (tl : Int) := by omega
    have hw := HWT.out.1 hbig
    obtain ⟨rfl, rfl⟩ := HPE.out 512 130 (.inl ⟨by omega, hw.symm, rfl⟩)
    clear HPE HWT HWM HTx HMg
    go_wp2
    go_ret2
    exact ⟨rfl, HF1.out⟩
  · have hbig' : ¬ (512 : Int) < (tl : Int) := by omega
    obtain ⟨HW1, HW2⟩ := HWT.out.2 hbig
    have HWa := show Hid _ from HW1
    have HWb := show Hid _ from HW2
    clear HW1 HW2 HWT
    go_wp2
    clear x0 x1 hW1
    go_loopw [4] (fun iv wr => ∃ j : Nat, j ≤ tl ∧ iv = zV j ∧ Hid (Fresh W1 wr) ∧ Hid (∀ i, i < j → bdT T i = false)) (fun iv _ => tl - (RowKit.intOf iv).toNat)
    case atStart => exact ⟨0, Nat.zero_le _, rfl, Kept.refl _ _, fun i hi => absurd hi (Nat.not_lt_zero _)⟩
    case round =>
      obtain ⟨j, hj, rfl, HQ, HN⟩ := hrel
      obtain ⟨x0, x1⟩ := HB.out wr HQ.out
      by_cases hlt : j < tl
      · have hlt' : (j : Int) < (tl : Int) := by omega
        have HCall := show Hid _ from HTx.out wr j hlt (HF1.out.trans HQ.out (fun _ _ e => e))
        clear HTx HMg
        cases hb : bdT T j with
        | true =>
          have hw := HWa.out j hlt hb HN.out
          obtain ⟨rfl, rfl⟩ := HPE.out (j : Int) 130 (.inl ⟨by omega, hw.symm, rfl⟩)
          rw [hb] at HCall
          clear HPE HWM HWa HWb HN
          go_wp2_with fail
          refine Calls.mono HCall.out ?_
          rintro e W3 ⟨rfl, hF3⟩
          clear HCall
          go_wp2
          go_ret2
          exact ⟨rfl, (HF1.out.trans HQ.out (fun _ _ e => e)).trans hF3 (fun _ _ e => e)⟩
        | false =>
          have HN2 : Hid (∀ i, i < j + 1 → bdT T i = false) := fun i hi => by
            by_cases e : i = j
            · rw [e]; exact hb
            · exact HN.out i (by omega)
          rw [hb] at HCall
          clear HPE HWM HWa HWb HN
          go_wp2_with fail
          refine Calls.mono HCall.out ?_
          rintro e W3 ⟨rfl, hF3⟩
          have HQ2 : Hid (Fresh W1 W3) := HQ.out.trans hF3 (fun _ _ e => e)
          clear HCall hF3 HQ
          go_wp2
          go_roundw
          case rel => exact ⟨j + 1, hlt, by go_num, HQ2.out, HN2.out⟩
          case measure => simp [RowKit.intOf]; omega
      · obtain rfl : j = tl := by omega
        have hw := HWb.out HN.out
        clear HTx HWa HWb HN
        by_cases h2 : j < 2
        · rw [if_pos h2] at hw
          have h2' : (j : Int) < 2 := by omega
          obtain ⟨rfl, rfl⟩ := HPE.out (j : Int) 130 (.inl ⟨by omega, hw.symm, rfl⟩)
          clear HPE HWM HMg
          go_wp2
          go_ret2
          exact ⟨rfl, HF1.out.trans HQ.out (fun _ _ e => e)⟩
        · rw [if_neg h2] at hw
          have h2' : ¬ (j : Int) < 2 := by omega
          by_cases hbm : 1024 < ml
          · have hbm' : (1024 : Int) < (ml : Int) := by omega
            have hwm := HWM.out.1 hbm
            obtain ⟨rfl, rfl⟩ := HPE.out 1024 131 (.inr (.inl ⟨hw, by omega, hwm.symm, rfl⟩))
            clear HPE HWM HMg
            go_wp2
            go_ret2
            exact ⟨rfl, HF1.out.trans HQ.out (fun _ _ e => e)⟩
          · have hbm' : ¬ (1024 : Int) < (ml : Int) := by omega
            obtain ⟨HW1, HW2⟩ := HWM.out.2 hbm
            have HWa := show Hid _ from HW1
            have HWb := show Hid _ from HW2
            have HMc := show Hid _ from HMg.out hw (by omega)
            have Hw := show Hid _ from hw
            clear HW1 HW2 HWM HMg hw
            go_wp2
            clear x0 x1
            go_loopw [5] (fun iv wq => ∃ k : Nat, k ≤ ml ∧ iv = zV k ∧ Hid (Fresh W1 wq) ∧ Hid (∀ i, i < k → bdM T M i = false)) (fun iv _ => ml - (RowKit.intOf iv).toNat)
            case atStart => exact ⟨0, Nat.zero_le _, rfl, HQ.out, fun i hi => absurd hi (Nat.not_lt_zero _)⟩
            case round =>
              obtain ⟨k, hk, rfl, HQ2, HN⟩ := hrel
              clear HQ
              obtain ⟨x0, x1⟩ := HB.out wr HQ2.out
              by_cases hlt2 : k < ml
              · have hlt' : (k : Int) < (ml : Int) := by omega
                have HCall := show Hid _ from HMc.out wr k hlt2 (HF1.out.trans HQ2.out (fun _ _ e => e))
                clear HMc
                cases hb : bdM T M k with
                | true =>
                  have hwm := HWa.out k hlt2 hb HN.out
                  obtain ⟨rfl, rfl⟩ := HPE.out (k : Int) 131 (.inr (.inl ⟨Hw.out, by omega, hwm.symm, rfl⟩))
                  rw [hb] at HCall
                  clear HPE HWa HWb HN
                  go_wp2_with fail
                  refine Calls.mono HCall.out ?_
                  rintro e W3 ⟨rfl, hF3⟩
                  clear HCall
                  go_wp2
                  go_ret2
                  exact ⟨rfl, (HF1.out.trans HQ2.out (fun _ _ e => e)).trans hF3 (fun _ _ e => e)⟩
                | false =>
                  have HN2 : Hid (∀ i, i < k + 1 → bdM T M i = false) := fun i hi => by
                    by_cases e : i = k
                    · rw [e]; exact hb
                    · exact HN.out i (by omega)
                  rw [hb] at HCall
                  clear HPE HWa HWb HN
                  go_wp2_with fail
                  refine Calls.mono HCall.out ?_
                  rintro e W3 ⟨rfl, hF3⟩
                  have HQ3 : Hid (Fresh W1 W3) := HQ2.out.trans hF3 (fun _ _ e => e)
                  clear HCall hF3 HQ2
                  go_wp2
                  go_roundw
                  case rel => exact ⟨k + 1, hlt2, by go_num, HQ3.out, HN2.out⟩
                  case measure => simp [RowKit.intOf]; omega
              · obtain rfl : k = ml := by omega
                have hwm := HWb.out HN.out
                obtain ⟨rfl, rfl⟩ := HPE.out 0 0 (.inr (.inr ⟨Hw.out, hwm, rfl, rfl⟩))
                clear HPE HWa HWb HN HMc hwm
                go_wp2
                go_ret2
                exact ⟨rfl, HF1.out.trans HQ2.out (fun _ _ e => e)⟩
end Go.Proofs.Ytdponkpgokncdaa
