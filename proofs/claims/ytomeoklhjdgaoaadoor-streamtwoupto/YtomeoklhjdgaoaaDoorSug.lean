/-
  The document's stream as a value: a piece.
-/
import Derived.Test.YtomeoklhjdgaoaaDoorSuf
import Derived.Test.YtomeoklhjdgaoaaDoorStp
namespace Go.Proofs.YtomeoklhjdgaoaaDoor
open Go.RowKit Go.Lib Go.Maps

set_option maxHeartbeats 2000000 in
set_option maxRecDepth 100000 in
theorem refFeed_done (no en : Bool) (so : Option Addr) (sn sc : Nat) (all out piece : List UInt8) (met : Int) (w : World) (h : no = true ∨ en = true ∨ 0 ≤ met) :
    Calls Tryd.prog 38 #[rsV no (.slice so sn sc) all out met en, sV piece] w fun e w' => e = .returned (.tuple #[rsV no (.slice so sn sc) all out met en, sV []]) ∧ Fresh w w' := by
  have HF : Hid (∀ a b, Fresh w ((w.alloc a).alloc b)) := fun a b => ((Kept.refl _ w).alloc _).alloc _
  cases no with
  | true =>
    clear h
    go_enter Tryd.func38, Tryd.ntmps38
    go_wp2
    exact bodyPost_ret (results_ct rfl _ _ (w.heap.size + 1) _ _ _ _ rfl (alloc2 _ _ _) Tryd.underlying30 rfl rsSize) rfl ⟨rfl, HF.out _ _⟩
  | false =>
    cases en with
    | true =>
      clear h
      go_enter Tryd.func38, Tryd.ntmps38
      go_wp2
      exact bodyPost_ret (results_ct rfl _ _ (w.heap.size + 1) _ _ _ _ rfl (alloc2 _ _ _) Tryd.underlying30 rfl rsSize) rfl ⟨rfl, HF.out _ _⟩
    | false =>
      have h0 : 0 ≤ met := by simpa using h
      clear h
      go_enter Tryd.func38, Tryd.ntmps38
      go_wp2
      exact bodyPost_ret (results_ct rfl _ _ (w.heap.size + 1) _ _ _ _ rfl (alloc2 _ _ _) Tryd.underlying30 rfl rsSize) rfl ⟨rfl, HF.out _ _⟩
set_option maxHeartbeats 8000000 in
set_option maxRecDepth 100000 in
theorem refFeed_live {p : Nat → Prop} (T : List (List UInt8)) (so : Option Addr) (sn sc : Nat) (all piece out rest : List UInt8) (w : World) (hR : TxR p w (.slice so sn sc) T) (hT : GdT T) (hl : (all ++ piece).length ≤ 16777216)
    (hc1 : cuM T (all ++ piece) = -1 → clL (goF T (all ++ piece)) = out ++ rest) (hc2 : cuM T (all ++ piece) ≠ -1 → clL (cuS T (all ++ piece)) = out ++ rest) :
    Calls Tryd.prog 38 #[rsV false (.slice so sn sc) all out (-1) false, sV piece] w fun e w' => e = .returned (.tuple #[rsV false (.slice so sn sc) (all ++ piece) (out ++ rest) (cuM T (all ++ piece)) false, sV rest]) ∧ Fresh w w' := by
  have hl2 : all.length + piece.length ≤ 16777216 := by rw [← List.length_append]; exact hl
  have hcl1 := clL_le (goF T (all ++ piece))
  have hcl2 := clL_le (cuS T (all ++ piece))
  have hg : (goF T (all ++ piece)).length ≤ (all ++ piece).length := by unfold goF; rw [List.length_take]; omega
  have hs := cuS_le T (all ++ piece)
  have hol : out.length + rest.length ≤ 50331648 := by
    rw [← List.length_append]
    by_cases e : cuM T (all ++ piece) = -1
    · rw [← hc1 e]; omega
    · rw [← hc2 e]; omega
  have has : (⟨all.toArray⟩ : ByteArray).size = all.length := len_l _
  have hps : (⟨piece.toArray⟩ : ByteArray).size = piece.length := len_l _
  have hAs : (⟨(all ++ piece).toArray⟩ : ByteArray).size = (all ++ piece).length := len_l _
  have hos : (⟨out.toArray⟩ : ByteArray).size = out.length := len_l _
  have hrs : (⟨rest.toArray⟩ : ByteArray).size = rest.length := len_l _
  have hcat0 : (⟨all.toArray⟩ : ByteArray) ++ ⟨piece.toArray⟩ = ⟨(all ++ piece).toArray⟩ := cat_l _ _
  have hcat : (⟨out.toArray⟩ : ByteArray) ++ ⟨rest.toArray⟩ = ⟨(out ++ rest).toArray⟩ := cat_l _ _
  have hsl : ∀ w, (Instr.slice 9 (sV (out ++ rest)) (some (.int .i64 (out.length : Int))) none none).run Tryd.prog w = .ok (sV rest) w := fun w => by
    have := slice_from (out ++ rest) out.length (by rw [List.length_append]; omega) w
    rwa [List.drop_left] at this
  have hHl := hldF_le T (all ++ piece)
  have hHs : (⟨(hldF T (all ++ piece)).toArray⟩ : ByteArray).size = (hldF T (all ++ piece)).length := len_l _
  have hsg : ∀ w, (Instr.slice 9 (sV (all ++ piece)) none (some (.int .i64 (((all ++ piece).length : Int) - ((hldF T (all ++ piece)).length : Int)))) none).run Tryd.prog w = .ok (sV (goF T (all ++ piece))) w := fun w => by
    rw [show ((all ++ piece).length : Int) - ((hldF T (all ++ piece)).length : Int) = (((all ++ piece).length - (hldF T (all ++ piece)).length : Nat) : Int) by omega]
    exact slice_to _ _ (by omega) w
  have hFa : Fresh w ((w.alloc (rsO false (.slice so sn sc) (all ++ piece) out (-1) false)).alloc rs0) := ((Kept.refl _ w).alloc _).alloc _
  have HC := show Hid _ from refCut_any T (all ++ piece) (.slice so sn sc) _ (by omega) (hR.fresh hFa) hT.ne
  have HFa : Hid (Fresh w ((w.alloc (rsO false (.slice so sn sc) (all ++ piece) out (-1) false)).alloc rs0)) := hFa
  have HB : Hid (∀ W1, Fresh ((w.alloc (rsO false (.slice so sn sc) (all ++ piece) out (-1) false)).alloc rs0) W1 → W1.heap[w.heap.size]? = some (rsO false (.slice so sn sc) (all ++ piece) out (-1) false) ∧ W1.heap[w.heap.size + 1]? = some rs0) := fun W1 hk =>
    ⟨hk.at (alloc1 _ _ _) (fun e => e), hk.at (alloc2 _ _ _) (fun e => e)⟩
  have HHd : Hid (∀ W, Fresh w W → Calls Tryd.prog 53 #[.slice so sn sc, sV (all ++ piece)] W fun e w' => e = .returned (sV (hldF T (all ++ piece))) ∧ Fresh W w') := fun W hk => refHeld_any T (all ++ piece) _ W hl (hR.fresh hk) hT
  have HClG : Hid (cuM T (all ++ piece) = -1 → ∀ W, Calls Tryd.prog 11 #[sV (goF T (all ++ piece))] W fun e w' => e = .returned (sV (out ++ rest)) ∧ Fresh W w') := fun e W => by
    have := refClean_any (goF T (all ++ piece)) W (by omega)
    rwa [hc1 e] at this
  have HClS : Hid (cuM T (all ++ piece) ≠ -1 → ∀ W, Calls Tryd.prog 11 #[sV (cuS T (all ++ piece))] W fun e w' => e = .returned (sV (out ++ rest)) ∧ Fresh W w') := fun e W => by
    have := refClean_any (cuS T (all ++ piece)) W (by omega)
    rwa [hc2 e] at this
  have HSA : Hid (cuM T (all ++ piece) = -1 → cuS T (all ++ piece) = all ++ piece) := cuM_none
  have hM := cuM_ge T (all ++ piece)
  clear hc1 hc2 hR hT hFa hcl1 hcl2 hg hs
  generalize cuS T (all ++ piece) = D at *
  generalize goF T (all ++ piece) = G at *
  generalize hldF T (all ++ piece) = H at *
  generalize cuM T (all ++ piece) = M at *
  generalize all ++ piece = A at *
  go_enter Tryd.func38, Tryd.ntmps38
  go_wp2_with fail
  refine Calls.mono HC.out ?_
  rintro e' W1 ⟨rfl, hF1⟩
  obtain ⟨hb1, hz1⟩ := HB.out W1 hF1
  have HF1 : Hid (Fresh w W1) := HFa.out.trans hF1 (fun _ _ e => e)
  have hb2 : (W1.setCell ⟨w.heap.size, 4, none⟩ (zV M)).heap[w.heap.size]? = some (rsO false (.slice so sn sc) A out M false) := Lib.heap_setCell_same hb1 _ (i := 4)
  have hz2 : (W1.setCell ⟨w.heap.size, 4, none⟩ (zV M)).heap[w.heap.size + 1]? = some rs0 := (Below.heap_setCell _ _ _ _ (by show w.heap.size + 1 ≠ w.heap.size; omega)).trans hz1
  have HF2 : Hid (Fresh w (W1.setCell ⟨w.heap.size, 4, none⟩ (zV M))) := HF1.out.setCell (fun e => absurd e (Nat.lt_irrefl _)) _
  obtain ⟨c0, c1, c2, c3, c4, c5, cf⟩ := six_cells hb1
  have HS2 : Hid ((W1.setCell ⟨w.heap.size, 4, none⟩ (zV M)).heap[w.heap.size]? = some (rsO false (.slice so sn sc) A out M false) ∧ (W1.setCell ⟨w.heap.size, 4, none⟩ (zV M)).heap[w.heap.size + 1]? = some rs0) := ⟨hb2, hz2⟩
  clear HC HB HFa hF1 hb1 hz1 hb2 hz2 HF1
  have HTail : Hid (∀ X, Fresh (W1.setCell ⟨w.heap.size, 4, none⟩ (zV M)) X → ∀ d : Nw X, d.w.heap[w.heap.size]? = some (rsO false (.slice so sn sc) A out M false) ∧ d.w.heap[w.heap.size + 1]? = some rs0 ∧ Fresh w d.w) := fun X hk d =>
    ⟨(hk.trans d.f (fun _ _ e => e)).at HS2.out.1 (fun e => e), (hk.trans d.f (fun _ _ e => e)).at HS2.out.2 (fun e => e), HF2.out.trans (hk.trans d.f (fun _ _ e => e)) (fun _ _ e => e)⟩
  by_cases hm : M = -1
  · subst hm
    have hDA := HSA.out rfl
    subst hDA
    have HK := show Hid _ from HHd.out _ HF2.out
    have HCl := show Hid _ from HClG.out rfl
    clear HHd HClG HClS HSA
    go_wp2_with fail
    refine Calls.mono HK.out ?_
    rintro e' W2 ⟨rfl, hF3⟩
    have HB2 := show Hid _ from HTail.out W2 hF3
    have k3 : ∀ d : Nw W2, d.w.cell? ⟨w.heap.size, 3, none⟩ = some (sV out) := fun d => (six_cells (HB2.out d).1).2.2.2.1
    have HCd : Hid (∀ d : Nw W2, Calls Tryd.prog 11 #[sV G] d.w fun e w' => e = .returned (sV (out ++ rest)) ∧ Fresh d.w w') := fun d => HCl.out d.w
    haveI : Nonempty (Nw W2) := nw_some _
    clear HK HTail HS2 HF2 hF3 HCl c0 c1 c2 c3 c4 c5 cf
    go_wp2
    refine wp_region_new (W := W2) (by kernel_rfl) (by kernel_rfl) ?_
    repeat (first | go_big_quiet_step ((with_reducible exact Calls.new_of (HCd.out _))) | quiet_step ((with_reducible exact Calls.new_of (HCd.out _))))
    refine wpQuiet_nil ?_
    intro _ hw'
    obtain ⟨dq, hw''⟩ := hw'
    subst hw''
    obtain ⟨hb3, hz3, hf3⟩ := HB2.out dq
    generalize dq.w = W3 at *
    obtain ⟨c0, c1, c2, c3, c4, c5, cf⟩ := six_cells hb3
    have HF : Hid (Fresh w W3) := hf3
    have hz4 : (W3.setCell ⟨w.heap.size, 3, none⟩ (sV (out ++ rest))).heap[w.heap.size + 1]? = some rs0 := (Below.heap_setCell _ _ _ _ (by show w.heap.size + 1 ≠ w.heap.size; omega)).trans hz3
    obtain ⟨z0, z1, z2, z3, z4, z5, zf⟩ := six_cells hz3
    have HZ := show Hid _ from six_set hz4
    have HFx := show Hid _ from six_fresh HF.out
    clear k3 HB2 HCd hf3 hb3 hz3 hz4
    go_wp2
    exact bodyPost_ret (results_ct rfl _ _ (w.heap.size + 1) _ _ _ _ rfl (HZ.out _ _ _ _ _ _) Tryd.underlying30 rfl rsSize) rfl ⟨rfl, HFx.out _ _ _ _ _ _ _⟩
  · have h0 : ¬ M < 0 := by omega
    have HB2 := show Hid _ from HTail.out _ (Kept.refl _ _)
    have HCl := show Hid _ from HClS.out hm
    have k3 : ∀ d : Nw (W1.setCell ⟨w.heap.size, 4, none⟩ (zV M)), d.w.cell? ⟨w.heap.size, 3, none⟩ = some (sV out) := fun d => (six_cells (HB2.out d).1).2.2.2.1
    have HCd : Hid (∀ d : Nw (W1.setCell ⟨w.heap.size, 4, none⟩ (zV M)), Calls Tryd.prog 11 #[sV D] d.w fun e w' => e = .returned (sV (out ++ rest)) ∧ Fresh d.w w') := fun d => HCl.out d.w
    haveI : Nonempty (Nw (W1.setCell ⟨w.heap.size, 4, none⟩ (zV M))) := nw_some _
    clear HHd HClG HClS HSA HTail HS2 HF2 HCl hm
    go_wp2
    refine wp_region_new (W := W1.setCell ⟨w.heap.size, 4, none⟩ (zV M)) (by kernel_rfl) (by kernel_rfl) ?_
    repeat (first | go_big_quiet_step ((with_reducible exact Calls.new_of (HCd.out _))) | quiet_step ((with_reducible exact Calls.new_of (HCd.out _))))
    refine wpQuiet_nil ?_
    intro _ hw'
    obtain ⟨dq, hw''⟩ := hw'
    subst hw''
    obtain ⟨hb3, hz3, hf3⟩ := HB2.out dq
    clear c0 c1 c2 c3 c4 c5 cf
    generalize dq.w = W3 at *
    obtain ⟨c0, c1, c2, c3, c4, c5, cf⟩ := six_cells hb3
    have HF : Hid (Fresh w W3) := hf3
    have hz4 : (W3.setCell ⟨w.heap.size, 3, none⟩ (sV (out ++ rest))).heap[w.heap.size + 1]? = some rs0 := (Below.heap_setCell _ _ _ _ (by show w.heap.size + 1 ≠ w.heap.size; omega)).trans hz3
    obtain ⟨z0, z1, z2, z3, z4, z5, zf⟩ := six_cells hz3
    have HZ := show Hid _ from six_set hz4
    have HFx := show Hid _ from six_fresh HF.out
    clear k3 HB2 HCd hf3 hb3 hz3 hz4
    go_wp2
    exact bodyPost_ret (results_ct rfl _ _ (w.heap.size + 1) _ _ _ _ rfl (HZ.out _ _ _ _ _ _) Tryd.underlying30 rfl rsSize) rfl ⟨rfl, HFx.out _ _ _ _ _ _ _⟩
end Go.Proofs.YtomeoklhjdgaoaaDoor
