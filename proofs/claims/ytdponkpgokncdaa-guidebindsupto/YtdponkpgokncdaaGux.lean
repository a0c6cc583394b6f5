/-
  The document's Check.
-/
import Derived.Test.YtdponkpgokncdaaGuw
namespace Go.Proofs.Ytdponkpgokncdaa
open Go.RowKit Go.Lib Go.Maps

set_option maxHeartbeats 1000000 in
set_option maxRecDepth 100000 in
theorem rcheck_any {p q : Nat → Prop} (A : List Bool) (E : List Ed) (an en : Value) (w : World) (hA : RbL p w an A) (hE : EdR q w en E) :
    Calls Try.prog 11 #[.agg #[an, en]] w fun e w' => e = .returned (.tuple #[zV (chP A E), zV (chE A E)]) ∧ Fresh w w' := by
  have HRD : Hid (∀ X, Fresh w X → ∀ i, i < E.length → Calls Try.prog 29 #[.agg #[an, en], zV i] X fun e w' => e = .returned (.bool (reB A.length E i)) ∧ Fresh X w') := fun X hX i hi => redge_any A E an en X (hA.fresh hX) (hE.fresh hX) i hi
  have HRV : Hid (∀ X, Fresh w X → Calls Try.prog 13 #[.agg #[an, en]] X fun e w' => ∃ v, e = .returned v ∧ w'.ownsRow X.heap.size 4 1 v A.length ((drL A E).map Value.bool) ∧ Fresh X w') := fun X hX => ralive_any A E an en X (hA.fresh hX) (hE.fresh hX)
  have HOK : Hid (∀ i, i < E.length → EdOk (gE E i)) := fun i hi => hE.ok hi
  have hF1 : Fresh w (w.alloc (.cells #[an, en] 28)) := (Kept.refl _ w).alloc _
  have HX : Hid (∀ X, Fresh (w.alloc (.cells #[an, en] 28)) X → Fresh w X ∧ X.cell? ⟨w.heap.size, 0, none⟩ = some an ∧ X.cell? ⟨w.heap.size, 1, none⟩ = some en) := fun X hk => by
    have h1 := hk.at (heap_alloc_new w (.cells #[an, en] 28)) (fun e => e)
    exact ⟨hF1.trans hk (fun _ _ e => e), by rw [Lib.cell_of_heap h1]; rfl, by rw [Lib.cell_of_heap h1]; rfl⟩
  have HM : Hid (64 < A.length → chE A E = 150 ∧ chP A E = 64) := fun h => chE_many h
  have HE1 : Hid (¬ 64 < A.length → 1024 < E.length → chE A E = 151 ∧ chP A E = 1024) := fun h h2 => chE_edges h h2
  have HB : Hid (¬ 64 < A.length → ¬ 1024 < E.length → ∀ i, bdF A.length E E.length = some i → chE A E = 151 ∧ chP A E = i) := fun h h2 i h3 => chE_bad h h2 h3
  have HLV : Hid (¬ 64 < A.length → ¬ 1024 < E.length → bdF A.length E E.length = none → (A.length = 0 → chE A E = 0 ∧ chP A E = 0) ∧ (0 < A.length → chE A E = (if (drL A E).getD 0 false then 0 else 152) ∧ chP A E = 0)) := fun h h2 h3 => by
    have h4 := chE_live h h2 h3
    refine ⟨fun h5 => ⟨?_, h4.2⟩, fun h5 => ⟨?_, h4.2⟩⟩
    · have h6 : (lvL (mF A E) (nA A)).getD 0 false = true := lvL_iff.2 (Lv.acc (by rw [(mF_empty (E := E) h5).1]; rfl))
      rw [h4.1, h6]
      rfl
    · rw [h4.1, (mF_some (E := E) h5).1, (mF_some (E := E) h5).2, drL_lv h3 HOK.out]
  have HDL : Hid ((drL A E).length = A.length) := drL_len A E
  have HRE : Hid (∀ i, bdF A.length E i = none → reB A.length E i = okB A.length E i) := fun i h => reB_ok h
  obtain ⟨ao, ac, rfl⟩ := hA.shape
  obtain ⟨eo, ec, rfl⟩ := hE.shape
  clear hA hE hF1
  generalize chE A E = ce at *
  generalize chP A E = cp at *
  obtain ⟨n, hn⟩ : ∃ n, n = A.length := ⟨_, rfl⟩
  obtain ⟨k, hk⟩ : ∃ k, k = E.length := ⟨_, rfl⟩
  rw [← hn] at HM HE1 HB HLV HDL HRE HX
  rw [← hn] at HRD HRV
  rw [← hk] at HE1 HB HLV HX HRV HRD
  rw [← hn, ← hk]
  have HKE : Hid (k = E.length) := hk
  clear hn hk HOK
  go_enter Try.func11, Try.ntmps11
  by_cases h64 : 64 < n
  · have h64' : (64 : Int) < (n : Int) := by omega
    obtain ⟨z1, z2⟩ := HM.out h64
    have HF := show Hid _ from (HX.out _ (Kept.refl _ _)).1
    clear h64 HM HE1 HB HLV HX HRD HRV
    subst z1 z2
    go_wp2
    go_ret2
    exact ⟨rfl, HF.out⟩
  · have h64' : ¬ (64 : Int) < (n : Int) := by omega
    by_cases h1k : 1024 < k
    · have h1k' : (1024 : Int) < (k : Int) := by omega
      obtain ⟨z1, z2⟩ := HE1.out h64 h1k
      have HF := show Hid _ from (HX.out _ (Kept.refl _ _)).1
      clear h64 h1k HM HE1 HB HLV HX HRD HRV
      subst z1 z2
      go_wp2
      go_ret2
      exact ⟨rfl, HF.out⟩
    · have h1k' : ¬ (1024 : Int) < (k : Int) := by omega
      have HB2 := show Hid _ from HB.out h64 h1k
      have HL2 := show Hid _ from HLV.out h64 h1k
      have hk9 : k ≤ 1024 := by omega
      clear HM HE1 HB HLV h64 h1k
      go_wp2
      generalize w.alloc (.cells #[.slice ao n ac, .slice eo k ec] 28) = W1 at *
      go_loopw [4] (fun iv wr => ∃ j : Nat, j ≤ k ∧ iv = zV j ∧ Hid (Fresh W1 wr) ∧ Hid (bdF n E j = none)) (fun iv _ => k - (RowKit.intOf iv).toNat)
      case atStart => exact ⟨0, Nat.zero_le _, rfl, Kept.refl _ _, rfl⟩
      case round =>
        obtain ⟨j, hj, rfl, HF, HBj⟩ := hrel
        obtain ⟨hfw, x0, x1⟩ := HX.out wr HF.out
        by_cases hlt : j < k
        · have hlt' : (j : Int) < (k : Int) := by omega
          have HC := show Hid _ from HRD.out wr hfw j hlt
          rw [HRE.out j HBj.out] at HC
          cases hO : okB n E j with
          | true =>
            have HB1 : Hid (bdF n E (j + 1) = none) := bdF_good HBj.out hO
            rw [hO] at HC
            clear hO HBj hfw
            go_wp2_with fail
            refine Calls.mono HC.out ?_
            rintro r X ⟨rfl, hf⟩
            have HFx : Hid (Fresh W1 X) := HF.out.trans hf (fun _ _ e => e)
            clear HC hf HF x0 x1
            go_wp2
            go_roundw
            case rel => exact ⟨j + 1, hlt, by go_num, HFx.out, HB1.out⟩
            case measure => simp [RowKit.intOf]; omega
          | false =>
            obtain ⟨z1, z2⟩ := HB2.out j (bdF_le (bdF_bad HBj.out hO) (by omega))
            rw [hO] at HC
            clear hO HBj hfw HB2 HL2 HRD HRV
            subst z1 z2
            go_wp2_with fail
            refine Calls.mono HC.out ?_
            rintro r X ⟨rfl, hf⟩
            have HFx := show Hid _ from (HX.out X (HF.out.trans hf (fun _ _ e => e))).1
            clear HC hf HF x0 x1 HX
            go_wp2
            go_ret2
            exact ⟨rfl, HFx.out⟩
        · obtain rfl : j = k := by omega
          have hlt' : ¬ ((j : Int) < (j : Int)) := by omega
          obtain ⟨l1, l2⟩ := HL2.out HBj.out
          have HL1 := show Hid _ from l1
          have HL3 := show Hid _ from l2
          have HFw := show Hid _ from hfw
          have HV := show Hid _ from HRV.out wr hfw
          clear l1 l2 hfw HB2 HL2 HRD HRV HBj
          rcases Nat.eq_zero_or_pos n with h0 | h0
          · obtain ⟨z1, z2⟩ := HL1.out h0
            subst z1 z2 h0
            clear HL1 HL3 HV
            go_wp2
            go_ret2
            exact ⟨rfl, HFw.out⟩
          · have h0' : (0 : Int) < (n : Int) := by omega
            obtain ⟨z1, z2⟩ := HL3.out h0
            have HZ1 : Hid (ce = if (drL A E).getD 0 false then 0 else 152) := z1
            subst z2
            clear HL1 HL3 z1
            go_wp2_with fail
            refine Calls.mono HV.out ?_
            rintro r X ⟨v, rfl, hown, hf⟩
            obtain ⟨g, c, rfl⟩ : ∃ g c, v = .slice (some ⟨g, 0, none⟩) n c := by
              rcases hown.2 with ⟨_, e⟩ | ⟨g', cap', cur, e, _⟩
              · omega
              · exact ⟨g', cap', e⟩
            have c0 : X.cell? ⟨g, 0, none⟩ = some (.bool ((drL A E).getD 0 false)) := by
              rw [hown.cellAt 0 (by omega), List.getElem?_map, List.getD_eq_getElem?_getD, List.getElem?_eq_getElem (by rw [HDL.out]; exact h0)]
              rfl
            have HFx : Hid (Fresh w X) := HFw.out.trans hf (fun _ _ e => e)
            clear hown hf HV x0 x1 HX HF
            cases hb : (drL A E).getD 0 false with
            | true =>
              rw [hb] at c0
              have hz : ce = 0 := by rw [HZ1.out, hb]; rfl
              clear hb HZ1
              subst hz
              go_wp2
              go_ret2
              exact ⟨rfl, HFx.out⟩
            | false =>
              rw [hb] at c0
              have hz : ce = 152 := by rw [HZ1.out, hb]; rfl
              clear hb HZ1
              subst hz
              go_wp2
              go_ret2
              exact ⟨rfl, HFx.out⟩
end Go.Proofs.Ytdponkpgokncdaa
