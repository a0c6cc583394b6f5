/-
  For every vocabulary and every two lists of numbers the statement VocabJoins answers true: what both say, one behind the other, is what each says; awake does.
-/
import Derived.Test.YtjjpkidmlpmgaaaVpa
import Derived.Test.YtjjpkidmlpmgaaaVpb
import Derived.Test.YtjjpkidmlpmgaaaVpc
import Derived.Test.YtjjpkidmlpmgaaaBulk1
import Derived.Deep.RegionHeldLaw
namespace Go.Proofs.Ytjjpkidmlpmgaaa.VJoins
open Go.ChangeShapes Go.WideShapes Go.ChangeAt Go.RowKit Go.Lib Go.Maps

theorem gI_app1 {a b : List Int} {i : Nat} (h : i < a.length) : gI (a ++ b) i = gI a i := by
  rw [gI, gI, List.getD_eq_getElem?_getD, List.getD_eq_getElem?_getD, List.getElem?_append_left h]
theorem gI_app2 {a b : List Int} (i : Nat) : gI (a ++ b) (a.length + i) = gI b i := by
  rw [gI, gI, List.getD_eq_getElem?_getD, List.getD_eq_getElem?_getD, List.getElem?_append_right (by omega), Nat.add_sub_cancel_left]
theorem ca_app1 (T : List (List UInt8)) (a b : List Int) : ∀ j, j ≤ a.length → caT T (a ++ b) j = caT T a j
  | 0, _ => rfl
  | j + 1, h => by
    show caT T (a ++ b) j ++ gT T (gI (a ++ b) j).toNat = caT T a j ++ gT T (gI a j).toNat
    rw [ca_app1 T a b j (by omega), gI_app1 (by omega)]
theorem ca_app2 (T : List (List UInt8)) (a b : List Int) : ∀ j, caT T (a ++ b) (a.length + j) = caT T a a.length ++ caT T b j
  | 0 => by rw [Nat.add_zero, ca_app1 T a b _ (Nat.le_refl _)]; simp [caT]
  | j + 1 => by
    show caT T (a ++ b) (a.length + j) ++ gT T (gI (a ++ b) (a.length + j)).toNat = caT T a a.length ++ (caT T b j ++ gT T (gI b j).toNat)
    rw [ca_app2 T a b j, gI_app2, List.append_assoc]
theorem bt_none {T : List (List UInt8)} {L : List Int} : btF T L = none ↔ ∀ i, i < L.length → ¬ (gI L i < 0 ∨ (T.length : Int) ≤ gI L i) := by
  constructor
  · intro h i hi
    have := fdF_all h i hi
    simpa using this
  · intro h
    exact fdF_none (fun i hi => decide_eq_false (h i hi))
theorem bt_app {T : List (List UInt8)} {a b : List Int} : btF T (a ++ b) = none ↔ btF T a = none ∧ btF T b = none := by
  rw [bt_none, bt_none, bt_none]
  constructor
  · intro h
    refine ⟨fun i hi => ?_, fun i hi => ?_⟩
    · have := h i (by rw [List.length_append]; omega)
      rwa [gI_app1 hi] at this
    · have := h (a.length + i) (by rw [List.length_append]; omega)
      rwa [gI_app2] at this
  · intro ⟨h1, h2⟩ i hi
    rw [List.length_append] at hi
    rcases Nat.lt_or_ge i a.length with e | e
    · rw [gI_app1 e]; exact h1 i e
    · obtain ⟨k, rfl⟩ : ∃ k, i = a.length + k := ⟨i - a.length, by omega⟩
      rw [gI_app2]; exact h2 k (by omega)
theorem deE_zero {T : List (List UInt8)} {M : List Mg} {L : List Int} : deE T M L = 0 ↔ chE T M = 0 ∧ btF T L = none := by
  unfold deE
  by_cases h : chE T M = 0
  · rw [if_neg (by simpa using h)]
    cases hb : btF T L with
    | none => simp [h]
    | some i => simp [h]
  · rw [if_pos h]
    simp [h]
/-- Both, one behind the other. -/
theorem join_ok {T : List (List UInt8)} {M : List Mg} {a b : List Int} (h1 : deE T M a = 0) (h2 : deE T M b = 0) : deE T M (a ++ b) = 0 ∧ deS T M (a ++ b) = deS T M a ++ deS T M b := by
  obtain ⟨c, e1⟩ := deE_zero.1 h1
  obtain ⟨_, e2⟩ := deE_zero.1 h2
  have e3 := bt_app.2 ⟨e1, e2⟩
  refine ⟨deE_zero.2 ⟨c, e3⟩, ?_⟩
  unfold deS
  rw [if_neg (by simpa using c), if_neg (by simpa using c), if_neg (by simpa using c), e1, e2, e3]
  show caT T (a ++ b) (a ++ b).length = caT T a a.length ++ caT T b b.length
  rw [List.length_append, ca_app2]
theorem join_bad {T : List (List UInt8)} {M : List Mg} {a b : List Int} (h : deE T M a ≠ 0 ∨ deE T M b ≠ 0) : deE T M (a ++ b) ≠ 0 ∧ deS T M (a ++ b) = [] := by
  have h3 : deE T M (a ++ b) ≠ 0 := fun e => by
    obtain ⟨c, e3⟩ := deE_zero.1 e
    obtain ⟨e1, e2⟩ := bt_app.1 e3
    rcases h with h | h
    · exact h (deE_zero.2 ⟨c, e1⟩)
    · exact h (deE_zero.2 ⟨c, e2⟩)
  refine ⟨h3, ?_⟩
  unfold deS
  split
  · rfl
  · rename_i hc
    split
    · rfl
    · rename_i hb
      exact absurd (deE_zero.2 ⟨by simpa using hc, hb⟩) h3
theorem step_append_run {P : Program} {ops : Array Oper} {o : Oper} {a : Act} {w : World} {K : Act → World → Prop} {Q : Exit → Act → World → Prop} {E : Prop} (hgd : o.guard = none) (s x : Operand) (t tn : TypeId)
    (ho : o.op = .call { callee := .builtin .append, args := #[s, x], argTypes := #[t, tn] }) (vs vx : Value) (hs : a.eval s = vs) (hx : a.eval x = vx)
    (v' : Value) (w' : World) (hr : (Builtin.append_ #[t, tn] o.type #[vs, vx]).run P w = .ok v' w') (h : K (a.put o.dst v') w') :
    if Region.wanted o (yielded ops a.tmps) = true then Oper.wp P o a w K Q else E := by
  have hw : Region.wanted o (yielded ops a.tmps) = true := by simp [Region.wanted, hgd]
  rw [if_pos hw]
  exact wp_append_run w s x t tn ho vs vx hs hx v' w' hr h
set_option maxHeartbeats 1000000 in
set_option maxRecDepth 100000 in
theorem walk {p q r : Nat → Prop} (w : World) (tv mv av bv : Value) (T : List (List UInt8)) (M : List Mg) (A B : List Int) (hT : TxR p w tv T) (hM : MgR p w mv M) (hA : Rk .i64 q w av A) (hB : Rk .i64 r w bv B) (hl : A.length + B.length ≤ 1048576) (hM24 : M.length * 24 ≤ 140737488351232) :
    Calls Try.prog 8 #[.agg #[tv, mv], av, bv] w fun e w' => e = .returned (.bool true) ∧ Fresh w w' := by
  have hF1 : Fresh w (w.alloc (.cells #[tv, mv] 25)) := (Kept.refl _ w).alloc _
  have HB : Hid (∀ W, Fresh (w.alloc (.cells #[tv, mv] 25)) W → W.cell? ⟨w.heap.size, 0, none⟩ = some tv ∧ W.cell? ⟨w.heap.size, 1, none⟩ = some mv) := fun W hk => by
    have hb2 := hk.at (heap_alloc_new w (.cells #[tv, mv] 25)) (fun e => e)
    exact ⟨Lib.cell_of_heap hb2 0, Lib.cell_of_heap hb2 1⟩
  have HDA : Hid (∀ W, Fresh w W → Calls Try.prog 17 #[.agg #[tv, mv], av] W fun e X' => e = .returned (.tuple #[sV (deS T M A), zV (deP T M A), zV (deE T M A)]) ∧ Fresh W X') := fun W hk => Decode_any W tv mv av T M A (hT.fresh hk) (hM.fresh hk) (hA.fresh hk) (by omega)
  have HDB : Hid (∀ W, Fresh w W → Calls Try.prog 17 #[.agg #[tv, mv], bv] W fun e X' => e = .returned (.tuple #[sV (deS T M B), zV (deP T M B), zV (deE T M B)]) ∧ Fresh W X') := fun W hk => Decode_any W tv mv bv T M B (hT.fresh hk) (hM.fresh hk) (hB.fresh hk) (by omega)
  have HG : Hid (∀ W, Fresh w W → Calls Try.prog 9 #[.agg #[tv, mv]] W fun e w' => ∃ tn mn, e = .returned (.agg #[tn, mn]) ∧ TxR (fun b => W.heap.size ≤ b ∧ b < w'.heap.size) w' tn T ∧ MgR (fun b => W.heap.size ≤ b ∧ b < w'.heap.size) w' mn M ∧ Fresh W w') := fun W hk => given_any W tv mv T M (hT.fresh hk) (hM.fresh hk) hM24
  have HRd : Hid (∀ (W : World) p' tn mn, Fresh w W → TxR p' W tn T → MgR p' W mn M → Calls Try.prog 18 #[.agg #[tn, mn], av] W fun e X' => e = .returned (.tuple #[sV (deS T M A), zV (deP T M A), zV (deE T M A)]) ∧ Fresh W X') := fun W p' tn mn hk h1 h2 => refDecode_any W tn mn av T M A h1 h2 (hA.fresh hk) (by omega)
  have HAp : Hid (∀ W, Fresh w W → ∃ xa xc W1 ya yc W2, (Builtin.append_ #[38, 38] 38 #[.slice (some ⟨W.heap.size, 0, none⟩) 0 0, av]).run Try.prog (W.drew.alloc (.cells #[] 3)) = .ok (.slice xa A.length xc) W1 ∧ (Builtin.append_ #[38, 38] 38 #[.slice xa A.length xc, bv]).run Try.prog W1 = .ok (.slice ya (A.length + B.length) yc) W2 ∧ Fresh W (W.drew.alloc (.cells #[] 3)) ∧ Fresh W W1 ∧ Fresh W W2 ∧ Calls Try.prog 17 #[.agg #[tv, mv], .slice ya (A.length + B.length) yc] W2 fun e X' => e = .returned (.tuple #[sV (deS T M (A ++ B)), zV (deP T M (A ++ B)), zV (deE T M (A ++ B))]) ∧ Fresh W2 X') := fun W hk => by
    have hF0 : Fresh W (W.drew.alloc (.cells #[] 3)) := ((Kept.refl _ W).drew).alloc _
    have ho : (W.drew.alloc (.cells #[] 3)).ownsRow W.heap.size 3 1 (.slice (some ⟨W.heap.size, 0, none⟩) 0 0) 0 [] := own_empty W.drew W.heap.size (Nat.le_refl _) 3
    obtain ⟨xv, W1, h1, h2, h3⟩ := twin tyI 38 _ W.heap.size _ [] (by simpa using ho) hF0.size av A q (hA.fresh (hk.trans hF0 (fun _ _ e => e))) (by simp [kb]; omega)
    rw [List.nil_append, List.length_nil, Nat.zero_add] at h2
    have hk1 := (Kept.refl (fun b => b = W.heap.size) _).grown h3 (fun k _ e => by simp [Value.ownBlock] at e; exact e.symm)
    have hF1 : Fresh W W1 := hF0.trans hk1 (fun k hk e => by have e' : k = W.heap.size := e; omega)
    obtain ⟨xa, xc, rfl⟩ := ownsRow_shape h2
    obtain ⟨yv, W2, h4, h5, h6⟩ := twin tyI 38 W1 W.heap.size _ A h2 hF1.size bv B r (hB.fresh (hk.trans hF1 (fun _ _ e => e))) (by simp [kb]; omega)
    have hk2 := (Kept.refl (fun b => (Value.slice xa A.length xc).ownBlock = some b) _).grown h6 (fun k _ e => e)
    have hF2 : Fresh W W2 := hF1.trans hk2 (fun k hk e => by have := own_ge h2 e; omega)
    obtain ⟨ya, yc, rfl⟩ := ownsRow_shape h5
    have hL : Rk .i64 (fun _ => True) W2 (.slice ya (A.length + B.length) yc) (A ++ B) := (rk_of_own h5 (by simp [kb]; omega) (fun z hz => (List.mem_append.1 hz).elim (hA.all z) (hB.all z))).mono (fun _ _ => trivial)
    exact ⟨xa, xc, W1, ya, yc, W2, h1, h4, hF0, hF1, hF2, Decode_any W2 tv mv _ T M (A ++ B) (hT.fresh (hk.trans hF2 (fun _ _ e => e))) (hM.fresh (hk.trans hF2 (fun _ _ e => e))) hL (by rw [List.length_append]; omega)⟩
  have HJ1 : Hid (deE T M A = 0 → deE T M B = 0 → deE T M (A ++ B) = 0 ∧ deS T M (A ++ B) = deS T M A ++ deS T M B) := fun h1 h2 => join_ok h1 h2
  have HJ2 : Hid (deE T M A ≠ 0 ∨ deE T M B ≠ 0 → deE T M (A ++ B) ≠ 0 ∧ deS T M (A ++ B) = []) := fun h => join_bad h
  have HLen : Hid (∀ L : List Int, L.length ≤ 1048576 → (deS T M L).length ≤ 64 * 1048576) := fun L hL => by
    unfold deS
    split
    · simp
    · rename_i hc
      split
      · simp
      · have := caT_len (L := L) (good_64 (chE_zero (T := T) (M := M) (by simpa using hc)).1) L.length
        omega
  have hla := HLen.out A (by omega)
  have hlb := HLen.out B (by omega)
  obtain ⟨ta, tc, rfl⟩ := hT.shape
  obtain ⟨ma, mc, rfl⟩ := hM.shape
  obtain ⟨aa, ac, rfl, _, _⟩ := hA.shape
  obtain ⟨ba, bc, rfl, _, _⟩ := hB.shape
  have HF1 : Hid (Fresh w (w.alloc (.cells #[.slice ta T.length tc, .slice ma M.length mc] 25))) := hF1
  clear hT hM hA hB hF1 HLen
  generalize deP T M A = PA at *
  generalize deP T M B = PB at *
  generalize deP T M (A ++ B) = PC at *
  generalize deE T M A = EA at *
  generalize deE T M B = EB at *
  generalize deE T M (A ++ B) = EC at *
  generalize deS T M A = SA at *
  generalize deS T M B = SB at *
  generalize deS T M (A ++ B) = SC at *
  generalize hTl : T.length = tn at *
  generalize hMl : M.length = mn at *
  generalize A.length = la at *
  generalize B.length = lb at *
  generalize hW1 : w.alloc (.cells #[.slice ta tn tc, .slice ma mn mc] 25) = W1 at *
  obtain ⟨x0, x1⟩ := HB.out W1 (Kept.refl _ _)
  have HC1 := show Hid _ from HDA.out W1 HF1.out
  go_enter Try.func8, Try.ntmps8
  go_wp2_with fail
  refine Calls.mono HC1.out ?_
  rintro e W2 ⟨rfl, hF2⟩
  have HF2 : Hid (Fresh W1 W2) := hF2
  have HC2 := show Hid _ from HDB.out W2 (HF1.out.trans hF2 (fun _ _ e => e))
  obtain ⟨y0, y1⟩ := HB.out W2 hF2
  clear HC1 hF2 HDA HDB x0 x1 hW1
  go_wp2_with fail
  refine Calls.mono HC2.out ?_
  rintro e W3 ⟨rfl, hF3⟩
  have HF3 : Hid (Fresh W1 W3) := HF2.out.trans hF3 (fun _ _ e => e)
  obtain ⟨x0, x1⟩ := HB.out W3 HF3.out
  obtain ⟨xa, xc, Wa, ya, yc, Wb, happ1, happ2, f0, f1, f2, hdec⟩ := HAp.out W3 (HF1.out.trans HF3.out (fun _ _ e => e))
  have HDec := show Hid _ from hdec
  obtain ⟨a0, b0⟩ := HB.out _ (HF3.out.trans f0 (fun _ _ e => e))
  obtain ⟨a1, b1⟩ := HB.out _ (HF3.out.trans f1 (fun _ _ e => e))
  obtain ⟨a2, b2⟩ := HB.out _ (HF3.out.trans f2 (fun _ _ e => e))
  have HFb : Hid (Fresh W1 Wb) := HF3.out.trans f2 (fun _ _ e => e)
  clear HC2 hF3 HAp hdec f0 f1 f2 y0 y1
  go_wp2_with fail
  have hS0 : W3.drew.cell? ⟨w.heap.size, 0, none⟩ = some (.slice ta tn tc) ∧ W3.drew.cell? ⟨w.heap.size, 1, none⟩ = some (.slice ma mn mc) := ⟨x0, x1⟩
  have hS1 := And.intro a0 b0
  have hS2 := And.intro a1 b1
  have hS3 := And.intro a2 b2
  clear x0 x1 a0 b0 a1 b1 a2 b2
  go_region_held_law (fun X => X.cell? ⟨w.heap.size, 0, none⟩ = some (.slice ta tn tc) ∧ X.cell? ⟨w.heap.size, 1, none⟩ = some (.slice ma mn mc)) (first | exact hS0 | exact hS1 | exact hS2 | exact hS3 | exact hS4 | assumption) (first | (refine step_append_run rfl _ _ _ _ rfl _ _ (by rfl) (by rfl) _ _ happ1 ?_) | (refine step_append_run rfl _ _ _ _ rfl _ _ (by rfl) (by rfl) _ _ happ2 ?_) | (go_at_call 17; refine Calls.mono HDec.out ?_; rintro e w4 ⟨rfl, hq4⟩; have hF4' : Fresh W1 w4 := HFb.out.trans hq4 (fun _ _ e => e); have hS4 := HB.out w4 hF4'))
  all_goals
    obtain ⟨x0, x1⟩ := hS4
    have HF4 : Hid (Fresh W1 w4) := hF4'
    have HC4 := show Hid _ from HG.out w4 (HF1.out.trans hF4' (fun _ _ e => e))
    clear hS0 hS1 hS2 hS3 hq4 hF4' HDec happ1 happ2 HG
    go_wp2_with fail
    refine Calls.mono HC4.out ?_
    rintro e W5 ⟨tn', mn', rfl, hT5, hM5, hF5⟩
    have HF5 : Hid (Fresh W1 W5) := HF4.out.trans hF5 (fun _ _ e => e)
    have HC5 := show Hid _ from HRd.out W5 _ tn' mn' (HF1.out.trans HF5.out (fun _ _ e => e)) hT5 hM5
    obtain ⟨ta5, tc5, rfl⟩ := hT5.shape
    obtain ⟨ma5, mc5, rfl⟩ := hM5.shape
    rw [hTl, hMl] at HC5
    rw [hTl, hMl]
    clear HC4 HRd hT5 hM5 hF5 x0 x1
    go_wp2_with fail
    refine Calls.mono HC5.out ?_
    rintro e W6 ⟨rfl, hF6⟩
    have HF6 : Hid (Fresh w W6) := HF1.out.trans (HF5.out.trans hF6 (fun _ _ e => e)) (fun _ _ e => e)
    have HC6 := show Hid _ from awake_any W6
    clear HC5 hF6
    go_wp2_with fail
    refine Calls.mono HC6.out ?_
    rintro e W7 ⟨rfl, hF7⟩
    have HF7 : Hid (Fresh w W7) := HF6.out.trans hF7 (fun _ _ e => e)
    clear HC6 hF7
    by_cases h1 : EA = 0
    · by_cases h2 : EB = 0
      · obtain ⟨h3, h4⟩ := HJ1.out h1 h2
        clear HJ1 HJ2
        subst h1 h2 h3 h4
        have hsz1 : (ByteArray.mk SA.toArray).size + (ByteArray.mk SB.toArray).size ≤ 134217728 := by rw [bA_size, bA_size]; omega
        have hEq : ByteArray.mk SA.toArray ++ ByteArray.mk SB.toArray = ByteArray.mk (SA ++ SB).toArray := bA_app SA SB
        have HTL : Hid (SA ++ SB = (ByteArray.mk (SA ++ SB).toArray).toList) := show _ = _ by rw [ByteArray.toList_eq]
        generalize ByteArray.mk (SA ++ SB).toArray = sc at *
        go_wp2
        go_ret
        exact ⟨by simp; exact HTL.out, HF7.out⟩
      · obtain ⟨h3, h4⟩ := HJ2.out (.inr h2)
        clear HJ1 HJ2
        subst h1 h4
        have d2 : (EB == 0) = false := by simpa using h2
        have d3 : (EC == 0) = false := by simpa using h3
        have d6 : (EC != 0) = true := by simpa using h3
        go_wp2
        go_ret
        exact ⟨by simp, HF7.out⟩
    · obtain ⟨h3, h4⟩ := HJ2.out (.inl h1)
      clear HJ1 HJ2
      subst h4
      have d1 : (EA == 0) = false := by simpa using h1
      have d3 : (EC == 0) = false := by simpa using h3
      have d6 : (EC != 0) = true := by simpa using h3
      go_wp2
      go_ret
      exact ⟨by simp, HF7.out⟩

set_option maxRecDepth 100000 in
theorem contract (H : Type) (enc : TypeId × Value → H) (W : World) (base : Nat) (args : Array Value) (ds gs : List (DataW H)) (before : List MemPlace)
    (hval : ∀ (j : Nat) t v, Try.f8.params[j]? = some t → args[j]? = some v → Value.okWide Try.prog W .any base t v)
    (hW : DataW.Whole enc Try.prog Try.f8.params.toList Rows.vocabJoinsSpec.vars false W args.toList ds gs before) (hbk : Rows.uptoSmall H (ds ++ gs) = true)
    (hsz : (DataW.weightsEach Try.prog (Try.f8.params.toList ++ []) (ds ++ gs)).all (· ≤ reachBytes) = true) (hL : laidMetH Try.prog Rows.vocabJoinsRow.laid W) :
    Calls Try.prog 8 args W fun e W' => ∃ v, e = .returned v ∧ Rows.vocabJoinsSpec.post enc Try.prog Try.f8 false true false false W args v W' := by
  have hW' := hW
  obtain ⟨p, q, hA0, hV, rfl, hfz, hnd⟩ := hW
  have hA : DataW.TrodAll enc Try.prog W 0 (fun _ => true) true Try.f8.params.toList args.toList ds p := hA0
  rw [Try.params8] at hA hval hsz
  obtain ⟨rfl, rfl⟩ := trodVars_none hV
  have _hL := hL
  obtain ⟨v0, v1, v2, d0, d1, d2, p0, p1, p2, rfl, rfl, rfl, h0, h1, h2⟩ := trodAll_three hA
  have hbd := bulk_le hbk
  simp only [List.append_nil, Rows.uptoBulkAll, Nat.add_zero] at hbd
  obtain ⟨tv, mv, T, M, rfl, hT, hM, hM24⟩ := voc_of (hval 0 25 v0 rfl rfl) h0 hsz (j := 0) rfl rfl
  obtain ⟨ao1, ln1, cap1, rfl⟩ := okWide_slice Try.underlying38 (hval 1 38 v1 rfl rfl)
  obtain ⟨fuel1, hf1⟩ := h1
  obtain ⟨ys, hy1, hz1⟩ := row_of tyI (x := (d1, _)) hf1 (fun es sp e => by
    have e' : d1 = .slice es sp := e
    subst e'
    have := sized_slice hsz (j := 1) (t := 38) (e := 3) rfl rfl Try.underlying38
    rw [Try.bInt] at this
    simp only [reachBytes] at this
    simp [kb]
    omega)
  have hl1 : ys.length ≤ Rows.uptoBulk d1 := by
    rcases hz1 with ⟨_, rfl⟩ | ⟨sp, e⟩
    · simp
    · have e' : d1 = .slice (lits .i64 ys) sp := e
      rw [e']
      simp only [Rows.uptoBulk]
      have h1 := bulk_length (lits (H := H) .i64 ys)
      simp only [lits, List.length_map] at h1 ⊢
      omega
  obtain ⟨ao2, ln2, cap2, rfl⟩ := okWide_slice Try.underlying38 (hval 2 38 v2 rfl rfl)
  obtain ⟨fuel2, hf2⟩ := h2
  obtain ⟨zs, hy2, hz2⟩ := row_of tyI (x := (d2, _)) hf2 (fun es sp e => by
    have e' : d2 = .slice es sp := e
    subst e'
    have := sized_slice hsz (j := 2) (t := 38) (e := 3) rfl rfl Try.underlying38
    rw [Try.bInt] at this
    simp only [reachBytes] at this
    simp [kb]
    omega)
  have hl2 : zs.length ≤ Rows.uptoBulk d2 := by
    rcases hz2 with ⟨_, rfl⟩ | ⟨sp, e⟩
    · simp
    · have e' : d2 = .slice (lits .i64 zs) sp := e
      rw [e']
      simp only [Rows.uptoBulk]
      have h1 := bulk_length (lits (H := H) .i64 zs)
      simp only [lits, List.length_map] at h1 ⊢
      omega
  refine (walk W tv mv _ _ T M ys zs hT hM hy1 hy2 (by omega) hM24).mono fun e W' ⟨he, hk⟩ => ?_
  subst he
  exact ⟨_, rfl, post_law rfl (by kernel_rfl) (by kernel_rfl) hW' rfl hk⟩

set_option maxRecDepth 100000 in
theorem laid_met (os : Os) : laidMet Try.prog Rows.vocabJoinsUptoRow.laid ((layIn (World.holding Try.prog os ⟨#[], #[], []⟩)).forCall (fun _ _ => 0) ⟨#[], #[.agg #[.slice none 0 0, .slice none 0 0], .slice none 0 0, .slice none 0 0], []⟩).memory :=
  laidMet_of_run' 8 (by kernel_rfl) (by kernel_rfl)
set_option maxRecDepth 100000 in
theorem reads (os : Os) {H : Type} (enc : TypeId × Value → H) : ∃ places, DataW.whole enc Try.prog ((layIn (World.holding Try.prog os ⟨#[], #[], []⟩)).forCall (fun _ _ => 0) ⟨#[], #[.agg #[.slice none 0 0, .slice none 0 0], .slice none 0 0, .slice none 0 0], []⟩).memory Try.f8.params.toList Rows.vocabJoinsSpec.vars false (#[.agg #[.slice none 0 0, .slice none 0 0], .slice none 0 0, .slice none 0 0] : Array Value).toList 8 = some ([.agg [.nil, .nil], .nil, .nil], [], places) :=
  ⟨[], by kernel_rfl⟩

set_option maxRecDepth 100000 in
theorem lifted (os : Os) (started : os.Started) (H : Type) (enc : TypeId × Value → H) (F : Stop.Interp) :
    ReturnsInHanded {} Try.checked os 8 .any ((Rows.OpenSpec.upto Rows.vocabJoinsSpec).preRow enc Try.prog Try.f8 Rows.vocabJoinsUptoRow.domain false Rows.vocabJoinsUptoRow.laid) (((Rows.OpenSpec.upto Rows.vocabJoinsSpec).at F).post enc Try.prog Try.f8 false true false false) := by
  obtain ⟨places, hx⟩ := reads os enc
  refine returnsInHanded_of_row (C := Try.checked) (s := Rows.OpenSpec.upto Rows.vocabJoinsSpec) Try.own started (by kernel_rfl) Try.func8
    (witness_row_at (enc := enc) (C := Try.checked) false (layIn (World.holding Try.prog os ⟨#[], #[], []⟩)) #[.agg #[.slice none 0 0, .slice none 0 0], .slice none 0 0, .slice none 0 0] rfl (by kernel_rfl) (by kernel_rfl) (by kernel_rfl)
      (OpenSpec.preRow_of_cond 8 hx (by kernel_rfl) (fun k hk => by cases hk; kernel_rfl) (by kernel_rfl) (laid_met os))) ?_
  intro W base args ds gs before hval hW _ hc hsz hL _ _
  exact contract H enc W base args ds gs before hval hW (hc _ rfl) hsz hL

theorem said : Rows.VocabJoinsUptoSaid :=
  OpenClaim.holds_of_cond 8 Try.f8 rfl rfl rfl rfl rfl rfl rfl ⟨rfl, rfl, rfl, rfl, rfl⟩ rfl rfl rfl rfl rfl (by kernel_rfl) Try.func8 (by kernel_rfl)
    (of_decide_eq_true (by kernel_rfl)) (by unfold Func.isWrapper; first | (rw [if_pos (by decide +kernel)]; kernel_rfl) | (rw [if_neg (by decide +kernel)]; exact ⟨rfl, rfl⟩))
    (fun os started H enc _ F => by rw [OpenClaim.pre_eq_preRow]; exact lifted os started H enc F)


end Go.Proofs.Ytjjpkidmlpmgaaa.VJoins
namespace Go.Proofs.Ytjjpkidmlpmgaaa
theorem vocabJoins_upto_holds : Rows.VocabJoinsUptoSaid := VJoins.said
end Go.Proofs.Ytjjpkidmlpmgaaa
