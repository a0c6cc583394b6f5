/-
  Check, Walk, Accepts, Alive: the program's.
-/
import Derived.Test.YtdponkpgokncdaaGup
import Derived.Test.YtdponkpgokncdaaGub
namespace Go.Proofs.Ytdponkpgokncdaa
open Go.RowKit Go.Lib Go.Maps

theorem chP_ok {A : List Bool} {E : List Ed} (h : chE A E = 0) : chP A E = 0 := by
  obtain ⟨h1, h2, h3, _⟩ := chE_zero h
  exact (chE_live (by omega) (by omega) h3).2
theorem nA_pos (A : List Bool) : 0 < (nA A).length := by
  unfold nA
  cases A with
  | nil => exact Nat.zero_lt_one
  | cons a l => exact Nat.succ_pos _
/-- A text is accepted. -/
def acF (A : List Bool) (E : List Ed) (l : List UInt8) : Bool := decide (chE A E = 0) && (decide (0 ≤ wkF (mF A E) 0 l) && (nA A).getD (wkF (mF A E) 0 l).toNat false)
/-- What Alive tells. -/
def aliF (A : List Bool) (E : List Ed) : List Bool := if chE A E = 0 ∧ A.length ≠ 0 then lvL (mF A E) (nA A) else []
theorem check_any {p : Nat → Prop} (A : List Bool) (E : List Ed) (acv edv : Value) (w : World) (hA : RbL p w acv A) (hE : EdR p w edv E) : Calls Try.prog 10 #[.agg #[acv, edv]] w fun e w' => e = .returned (.tuple #[zV (chP A E), zV (chE A E)]) ∧ Fresh w w' := by
  have hF1 : Fresh w (w.alloc (.cells #[acv, edv] 25)) := (Kept.refl _ w).alloc _
  have HC := show Hid _ from machineOf_any A E acv edv _ (hA.fresh hF1) (hE.fresh hF1)
  have HF1 := show Hid _ from hF1
  have HP : Hid (chE A E = 0 → chP A E = 0) := fun h => chP_ok h
  obtain ⟨ao, ac, rfl⟩ := hA.shape
  obtain ⟨eo, ec, rfl⟩ := hE.shape
  clear hA hE hF1
  unfold MoQ at HC
  generalize chP A E = cp at *
  generalize chE A E = ce at *
  go_enter Try.func10, Try.ntmps10
  go_wp2_with fail
  refine Calls.mono HC.out ?_
  rintro e X ⟨hf, hc⟩
  have HFx : Hid (Fresh w X) := HF1.out.trans hf (fun _ _ e => e)
  clear hf HC
  rcases hc with ⟨hne, rfl⟩ | ⟨hz, b, av, sv, rfl, _⟩
  · clear HP hne
    go_wp2
    go_ret2
    exact ⟨rfl, HFx.out⟩
  · obtain rfl := HP.out hz
    subst hz
    go_wp2
    go_ret2
    exact ⟨rfl, HFx.out⟩
set_option maxHeartbeats 500000 in
theorem walk_any {p : Nat → Prop} (A : List Bool) (E : List Ed) (acv edv : Value) (w : World) (hA : RbL p w acv A) (hE : EdR p w edv E) (s : Int) (t : ByteArray) (ht : t.size ≤ 9223372036854775000) : Calls Try.prog 16 #[.agg #[acv, edv], zV s, .string t] w fun e w' => e = .returned (zV (wlF A E s t.data.toList)) ∧ Fresh w w' := by
  have hF1 : Fresh w (w.alloc (.cells #[acv, edv] 25)) := (Kept.refl _ w).alloc _
  have HC := show Hid _ from machineOf_any A E acv edv _ (hA.fresh hF1) (hE.fresh hF1)
  have HF1 := show Hid _ from hF1
  obtain ⟨ao, ac, rfl⟩ := hA.shape
  obtain ⟨eo, ec, rfl⟩ := hE.shape
  clear hA hE hF1
  unfold MoQ at HC
  have HW : Hid (∀ Z, Z = wlF A E s t.data.toList → (chE A E ≠ 0 → Z = -1) ∧ (chE A E = 0 → (0 ≤ s ∧ s < ((nA A).length : Int) → Z = wkF (mF A E) s t.data.toList) ∧ (¬ (0 ≤ s ∧ s < ((nA A).length : Int)) → Z = -1))) := fun Z hZ => by
    rw [hZ]
    unfold wlF
    exact ⟨fun h => if_neg (fun e => h e.1), fun h => ⟨fun h2 => if_pos ⟨h, h2⟩, fun h2 => if_neg (fun e => h2 e.2)⟩⟩
  have HZ := HW.out _ rfl
  generalize wlF A E s t.data.toList = Z at *
  clear HW
  have HZh := show Hid _ from HZ
  clear HZ
  generalize chP A E = cp at *
  generalize chE A E = ce at *
  go_enter Try.func16, Try.ntmps16
  go_wp2_with fail
  refine Calls.mono HC.out ?_
  rintro e X ⟨hf, hc⟩
  have HFx : Hid (Fresh w X) := HF1.out.trans hf (fun _ _ e => e)
  clear hf HC
  rcases hc with ⟨hne, rfl⟩ | ⟨hz, b, av, sv, rfl, hm⟩
  · have HZ1 : Hid (Z = -1) := HZh.out.1 hne
    have hce : ((ce : Int) != 0) = true := bne_iff_ne.2 (by omega)
    clear hne HZh
    go_wp2
    go_ret
    exact ⟨by rw [HZ1.out]; rfl, HFx.out⟩
  · have HZ1 := HZh.out.2 hz
    have HH := show Hid _ from has_any hm s
    clear hz HZh
    by_cases hs : 0 ≤ s ∧ s < ((nA A).length : Int)
    · have hd : (decide (0 ≤ s) && decide (s < ((nA A).length : Int))) = true := by rw [decide_eq_true hs.1, decide_eq_true hs.2]; rfl
      rw [hd] at HH
      have HZ2 : Hid (Z = wkF (mF A E) s t.data.toList) := HZ1.1 hs
      have HWK := show Hid _ from walk_mach hm s (.inr hs) t ht
      clear hd HZ1 hs hm
      go_wp2_with fail
      refine Calls.mono HH.out ?_
      rintro e X2 ⟨rfl, rfl⟩
      go_wp2_with fail
      refine Calls.mono HWK.out ?_
      rintro e X3 ⟨rfl, rfl⟩
      go_wp2
      go_ret
      exact ⟨by rw [HZ2.out]; rfl, HFx.out⟩
    · have hd : (decide (0 ≤ s) && decide (s < ((nA A).length : Int))) = false := by
        by_cases e1 : 0 ≤ s
        · rw [decide_eq_true e1, decide_eq_false (fun e2 => hs ⟨e1, e2⟩)]; rfl
        · rw [decide_eq_false e1]; rfl
      rw [hd] at HH
      have HZ2 : Hid (Z = -1) := HZ1.2 hs
      clear hd HZ1 hs hm
      go_wp2_with fail
      refine Calls.mono HH.out ?_
      rintro e X2 ⟨rfl, rfl⟩
      go_wp2
      go_ret
      exact ⟨by rw [HZ2.out]; rfl, HFx.out⟩
set_option maxHeartbeats 500000 in
theorem accept_any {p : Nat → Prop} (A : List Bool) (E : List Ed) (acv edv : Value) (w : World) (hA : RbL p w acv A) (hE : EdR p w edv E) (t : ByteArray) (ht : t.size ≤ 9223372036854775000) : Calls Try.prog 18 #[.agg #[acv, edv], .string t] w fun e w' => e = .returned (.bool (acF A E t.data.toList)) ∧ Fresh w w' := by
  have hF1 : Fresh w (w.alloc (.cells #[acv, edv] 25)) := (Kept.refl _ w).alloc _
  have HC := show Hid _ from machineOf_any A E acv edv _ (hA.fresh hF1) (hE.fresh hF1)
  have HF1 := show Hid _ from hF1
  obtain ⟨ao, ac, rfl⟩ := hA.shape
  obtain ⟨eo, ec, rfl⟩ := hE.shape
  clear hA hE hF1
  unfold MoQ at HC
  have HZ : Hid ((chE A E ≠ 0 → acF A E t.data.toList = false) ∧ (chE A E = 0 → acF A E t.data.toList = (decide (0 ≤ wkF (mF A E) 0 t.data.toList) && (nA A).getD (wkF (mF A E) 0 t.data.toList).toNat false))) := by
    unfold acF
    exact ⟨fun h => by rw [decide_eq_false h]; rfl, fun h => by rw [decide_eq_true h]; rfl⟩
  generalize acF A E t.data.toList = Z at *
  have HNA := show Hid _ from nA_pos A
  generalize chP A E = cp at *
  generalize chE A E = ce at *
  go_enter Try.func18, Try.ntmps18
  go_wp2_with fail
  refine Calls.mono HC.out ?_
  rintro e X ⟨hf, hc⟩
  have HFx : Hid (Fresh w X) := HF1.out.trans hf (fun _ _ e => e)
  clear hf HC
  rcases hc with ⟨hne, rfl⟩ | ⟨hz, b, av, sv, rfl, hm⟩
  · have HZ1 : Hid (Z = false) := HZ.out.1 hne
    have hce : ((ce : Int) == 0) = false := beq_eq_false_iff_ne.2 (by omega)
    clear hne HZ
    go_wp2
    go_ret
    exact ⟨by rw [HZ1.out]; rfl, HFx.out⟩
  · have HZ1 := show Hid _ from HZ.out.2 hz
    clear hz HZ
    have hr := wkF_range hm.rg t.data.toList 0 (.inr ⟨Int.le_refl _, by have := HNA.out; omega⟩)
    have HWK := show Hid _ from walk_mach hm 0 (.inr ⟨Int.le_refl _, by have := HNA.out; omega⟩) t ht
    have HAC := show Hid _ from accepts_any hm _ hr
    clear hr hm
    generalize wkF (mF A E) 0 t.data.toList = x at *
    generalize (decide (0 ≤ x) && (nA A).getD x.toNat false) = y at *
    go_wp2_with fail
    refine Calls.mono HWK.out ?_
    rintro e X3 ⟨rfl, rfl⟩
    go_wp2_with fail
    refine Calls.mono HAC.out ?_
    rintro e X3 ⟨rfl, rfl⟩
    go_wp2
    go_ret
    exact ⟨by rw [HZ1.out]; rfl, HFx.out⟩
set_option maxHeartbeats 500000 in
theorem aliveFn_any {p : Nat → Prop} (A : List Bool) (E : List Ed) (acv edv : Value) (w : World) (hA : RbL p w acv A) (hE : EdR p w edv E) : Calls Try.prog 12 #[.agg #[acv, edv]] w fun e w' => ∃ v, e = .returned (.tuple #[v, zV (chE A E)]) ∧ w'.ownsRow w.heap.size 4 1 v (aliF A E).length ((aliF A E).map Value.bool) ∧ Fresh w w' := by
  have hF1 : Fresh w (w.alloc (.cells #[acv, edv] 25)) := (Kept.refl _ w).alloc _
  have HC := show Hid _ from machineOf_any A E acv edv _ (hA.fresh hF1) (hE.fresh hF1)
  have HF1 := show Hid _ from hF1
  have hbx := heap_alloc_new w (.cells #[acv, edv] 25)
  obtain ⟨ao, ac, rfl⟩ := hA.shape
  obtain ⟨eo, ec, rfl⟩ := hE.shape
  have HBX := show Hid _ from hbx
  clear hA hE hF1 hbx
  unfold MoQ at HC
  have HNA := show Hid _ from nA_pos A
  have HZ : Hid ((chE A E ≠ 0 ∨ A.length = 0 → aliF A E = []) ∧ (chE A E = 0 → A.length ≠ 0 → aliF A E = lvL (mF A E) (nA A))) := by
    unfold aliF
    exact ⟨fun h => if_neg (fun e => h.elim (fun h1 => h1 e.1) (fun h2 => e.2 h2)), fun h1 h2 => if_pos ⟨h1, h2⟩⟩
  generalize aliF A E = Z at *
  generalize chP A E = cp at *
  generalize chE A E = ce at *
  generalize hn : A.length = n at *
  clear hn
  go_enter Try.func12, Try.ntmps12
  go_wp2_with fail
  refine Calls.mono HC.out ?_
  rintro e X ⟨hf, hc⟩
  have HFx : Hid (Fresh w X) := HF1.out.trans hf (fun _ _ e => e)
  have x0 : X.cell? ⟨w.heap.size, 0, none⟩ = some (.slice ao n ac) := by rw [Lib.cell_of_heap (hf.at HBX.out (fun e => e))]; rfl
  clear hf HC HBX
  rcases hc with ⟨hne, rfl⟩ | ⟨hz, b, av, sv, rfl, hm⟩
  · have HZ1 : Hid (Z = []) := HZ.out.1 (.inl hne)
    have hce : ((ce : Int) != 0) = true := bne_iff_ne.2 (by omega)
    clear hne HZ
    go_wp2
    go_ret2
    exact ⟨_, rfl, by rw [HZ1.out]; exact ⟨rfl, .inl ⟨rfl, rfl⟩⟩, HFx.out⟩
  · subst hz
    rcases Nat.eq_zero_or_pos n with h0 | h0
    · have HZ1 : Hid (Z = []) := HZ.out.1 (.inr h0)
      subst h0
      clear HZ
      go_wp2
      go_ret2
      exact ⟨_, rfl, by rw [HZ1.out]; exact ⟨rfl, .inl ⟨rfl, rfl⟩⟩, HFx.out⟩
    · have HZ1 : Hid (Z = lvL (mF A E) (nA A)) := HZ.out.2 rfl (by omega)
      have hn0 : ((n : Int) == 0) = false := beq_eq_false_iff_ne.2 (by omega)
      have HAL := show Hid _ from alive_any hm HNA.out
      clear HZ hm
      go_wp2_with fail
      refine Calls.mono HAL.out ?_
      rintro e X2 ⟨g, c, rfl, hown, hf2⟩
      have HO : Hid (X2.ownsRow w.heap.size 4 1 (.slice (some ⟨g, 0, none⟩) (nA A).length c) (nA A).length ((lvL (mF A E) (nA A)).map Value.bool) ∧ Fresh w X2) := ⟨own_down hown HFx.out.size, HFx.out.trans hf2 (fun _ _ e => e)⟩
      clear hown hf2 HAL x0
      have HL : Hid ((lvL (mF A E) (nA A)).length = (nA A).length) := lvL_len _ _
      generalize (nA A).length = m at *
      go_wp2
      go_ret2
      exact ⟨_, rfl, by rw [HZ1.out, HL.out]; exact HO.out.1, HO.out.2⟩
end Go.Proofs.Ytdponkpgokncdaa
