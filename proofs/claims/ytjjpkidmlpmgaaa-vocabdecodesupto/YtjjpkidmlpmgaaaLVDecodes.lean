/-
  For every vocabulary and every list of numbers the statement VocabDecodes answers true: both say the same, or refuse alike; the list is as it was; awake does.
-/
import Derived.Test.YtjjpkidmlpmgaaaVpa
import Derived.Test.YtjjpkidmlpmgaaaVpb
import Derived.Test.YtjjpkidmlpmgaaaVpc
import Derived.Test.YtjjpkidmlpmgaaaBulk1
namespace Go.Proofs.Ytjjpkidmlpmgaaa.VDecodes
open Go.ChangeShapes Go.WideShapes Go.ChangeAt Go.RowKit Go.Lib Go.Maps

set_option maxHeartbeats 1000000 in
set_option maxRecDepth 100000 in
theorem walk {p q : Nat → Prop} (w : World) (tv mv lv : Value) (T : List (List UInt8)) (M : List Mg) (L : List Int) (hT : TxR p w tv T) (hM : MgR p w mv M) (hL : Rk .i64 q w lv L) (hl : L.length ≤ 549755813888) (hM24 : M.length * 24 ≤ 140737488351232) :
    Calls Try.prog 5 #[.agg #[tv, mv], lv] w fun e w' => e = .returned (.bool true) ∧ Fresh w w' := by
  have hF1 : Fresh w ((w.alloc (.cells #[tv, mv] 25)).alloc (.cells #[] 3)) := ((Kept.refl _ w).alloc _).alloc _
  have s1 : (w.alloc (.cells #[tv, mv] 25)).heap.size = w.heap.size + 1 := by rw [World.size_alloc]
  have ho := own_empty (w.alloc (.cells #[tv, mv] 25)) w.heap.size (by omega) 3
  rw [s1] at ho
  have hbx : ((w.alloc (.cells #[tv, mv] 25)).alloc (.cells #[] 3)).heap[w.heap.size]? = some (.cells #[tv, mv] 25 (0, 0)) := by rw [Below.heap_alloc _ _ _ (by omega)]; exact heap_alloc_new _ _
  obtain ⟨xv, W1, happ, hox, hgr⟩ := twin tyI 38 _ w.heap.size _ [] (by simpa using ho) hF1.size lv L q (hL.fresh hF1) (by simp [kb]; omega)
  have hk1 := (Kept.refl (fun b => b = w.heap.size + 1) _).grown hgr (fun k _ e => by simp [Value.ownBlock] at e; exact e.symm)
  have HB : Hid (∀ W, Fresh W1 W → W.cell? ⟨w.heap.size, 0, none⟩ = some tv ∧ W.cell? ⟨w.heap.size, 1, none⟩ = some mv) := fun W hk => by
    have hb2 := hk.at (hk1.at hbx (by omega)) (fun e => e)
    exact ⟨Lib.cell_of_heap hb2 0, Lib.cell_of_heap hb2 1⟩
  have hFw : Fresh w W1 := hF1.trans hk1 (fun k hk e => by have e' : k = w.heap.size + 1 := e; omega)
  have HF1 : Hid (Fresh w W1) := hFw
  have HX : Hid (∀ W, Fresh W1 W → Rk .i64 (fun _ => True) W xv L) := fun W hk => by
    rw [List.nil_append, List.length_nil, Nat.zero_add] at hox
    exact ((rk_of_own hox (by have := hL.len; exact this) hL.all).mono (fun _ _ => trivial)).fresh hk
  have HL : Hid (∀ W, Fresh W1 W → Rk .i64 q W lv L) := fun W hk => hL.fresh (hFw.trans hk (fun _ _ e => e))
  have HD : Hid (∀ W, Fresh W1 W → Calls Try.prog 17 #[.agg #[tv, mv], lv] W fun e X' => e = .returned (.tuple #[sV (deS T M L), zV (deP T M L), zV (deE T M L)]) ∧ Fresh W X') := fun W hk => Decode_any W tv mv lv T M L (hT.fresh (hFw.trans hk (fun _ _ e => e))) (hM.fresh (hFw.trans hk (fun _ _ e => e))) (HL.out W hk) hl
  have HG : Hid (∀ W, Fresh W1 W → Calls Try.prog 9 #[.agg #[tv, mv]] W fun e w' => ∃ tn mn, e = .returned (.agg #[tn, mn]) ∧ TxR (fun b => W.heap.size ≤ b ∧ b < w'.heap.size) w' tn T ∧ MgR (fun b => W.heap.size ≤ b ∧ b < w'.heap.size) w' mn M ∧ Fresh W w') := fun W hk => given_any W tv mv T M (hT.fresh (hFw.trans hk (fun _ _ e => e))) (hM.fresh (hFw.trans hk (fun _ _ e => e))) hM24
  have HRd : Hid (∀ (W : World) p' tn mn, Fresh W1 W → TxR p' W tn T → MgR p' W mn M → Calls Try.prog 18 #[.agg #[tn, mn], xv] W fun e X' => e = .returned (.tuple #[sV (deS T M L), zV (deP T M L), zV (deE T M L)]) ∧ Fresh W X') := fun W p' tn mn hk h1 h2 => refDecode_any W tn mn xv T M L h1 h2 (HX.out W hk) hl
  have HI : Hid (∀ W, Fresh W1 W → Calls Try.prog 16 #[lv, xv] W fun e w' => e = .returned (.bool true) ∧ Fresh W w') := fun W hk => by
    have := ints_any lv xv L L W (HL.out W hk) (HX.out W hk)
    rw [decide_eq_true rfl] at this
    exact this
  obtain ⟨ta, tc, rfl⟩ := hT.shape
  obtain ⟨ma, mc, rfl⟩ := hM.shape
  obtain ⟨la, lc, rfl, _, _⟩ := hL.shape
  have hL1 := (HX.out W1 (Kept.refl _ _)).shape
  obtain ⟨xa, xc, rfl, _, _⟩ := hL1
  obtain ⟨x0, x1⟩ := HB.out W1 (Kept.refl _ _)
  clear hT hM hL ho hbx hox hgr hk1 s1 hF1 hFw
  generalize deP T M L = P at *
  generalize deE T M L = E at *
  generalize deS T M L = S at *
  generalize hTl : T.length = tn at *
  generalize hMl : M.length = mn at *
  generalize hLl : L.length = ln at *
  have HCall := show Hid _ from HD.out W1 (Kept.refl _ _)
  clear HD
  go_enter Try.func5, Try.ntmps5
  go_wp2_with (at_builtin; refine Lib.wpList_append_run _ rfl _ _ _ _ rfl _ _ rfl rfl _ _ happ ?_)
  refine Calls.mono HCall.out ?_
  rintro e W2 ⟨rfl, hF2⟩
  obtain ⟨y0, y1⟩ := HB.out W2 hF2
  have HC2 := show Hid _ from HG.out W2 hF2
  have HF2 : Hid (Fresh W1 W2) := hF2
  clear HCall hF2 HG happ x0 x1
  go_wp2_with fail
  refine Calls.mono HC2.out ?_
  rintro e W3 ⟨tn', mn', rfl, hT3, hM3, hF3⟩
  have HF3 : Hid (Fresh W1 W3) := HF2.out.trans hF3 (fun _ _ e => e)
  have HC3 := show Hid _ from HRd.out W3 _ tn' mn' HF3.out hT3 hM3
  obtain ⟨ta3, tc3, rfl⟩ := hT3.shape
  obtain ⟨ma3, mc3, rfl⟩ := hM3.shape
  rw [hTl] at HC3
  rw [hMl] at HC3
  clear HC2 HRd hT3 hM3 hF3 y0 y1
  rw [hTl, hMl]
  go_wp2_with fail
  refine Calls.mono HC3.out ?_
  rintro e W4 ⟨rfl, hF4⟩
  have HF4 : Hid (Fresh W1 W4) := HF3.out.trans hF4 (fun _ _ e => e)
  have HC4 := show Hid _ from awake_any W4
  clear HC3 hF4
  go_wp2_with fail
  refine Calls.mono HC4.out ?_
  rintro e W5 ⟨rfl, hF5⟩
  have HF5 : Hid (Fresh W1 W5) := HF4.out.trans hF5 (fun _ _ e => e)
  have HC5 := show Hid _ from HI.out W5 HF5.out
  clear HC4 hF5 HI
  go_wp2_with fail
  refine Calls.mono HC5.out ?_
  rintro e W6 ⟨rfl, hF6⟩
  have HF6 : Hid (Fresh w W6) := HF1.out.trans (HF5.out.trans hF6 (fun _ _ e => e)) (fun _ _ e => e)
  clear HC5 hF6
  go_wp2
  go_ret
  exact ⟨rfl, HF6.out⟩

set_option maxRecDepth 100000 in
theorem contract (H : Type) (enc : TypeId × Value → H) (W : World) (base : Nat) (args : Array Value) (ds gs : List (DataW H)) (before : List MemPlace)
    (hval : ∀ (j : Nat) t v, Try.f5.params[j]? = some t → args[j]? = some v → Value.okWide Try.prog W .any base t v)
    (hW : DataW.Whole enc Try.prog Try.f5.params.toList Rows.vocabDecodesSpec.vars false W args.toList ds gs before) (hbk : Rows.uptoSmall H (ds ++ gs) = true)
    (hsz : (DataW.weightsEach Try.prog (Try.f5.params.toList ++ []) (ds ++ gs)).all (· ≤ reachBytes) = true) (hL : laidMetH Try.prog Rows.vocabDecodesRow.laid W) :
    Calls Try.prog 5 args W fun e W' => ∃ v, e = .returned v ∧ Rows.vocabDecodesSpec.post enc Try.prog Try.f5 false true false false W args v W' := by
  have hW' := hW
  obtain ⟨p, q, hA0, hV, rfl, hfz, hnd⟩ := hW
  have hA : DataW.TrodAll enc Try.prog W 0 (fun _ => true) true Try.f5.params.toList args.toList ds p := hA0
  rw [Try.params5] at hA hval hsz
  obtain ⟨rfl, rfl⟩ := trodVars_none hV
  have _hL := hL
  obtain ⟨v0, v1, d0, d1, p0, p1, rfl, rfl, rfl, h0, h1⟩ := trodAll_two hA
  have hbd := bulk_le hbk
  simp only [List.append_nil, Rows.uptoBulkAll, Nat.add_zero] at hbd
  obtain ⟨tv, mv, T, M, rfl, hT, hM, hM24⟩ := voc_of (hval 0 25 v0 rfl rfl) h0 hsz (j := 0) rfl rfl
  obtain ⟨ao, ln, cap, rfl⟩ := okWide_slice Try.underlying38 (hval 1 38 v1 rfl rfl)
  obtain ⟨fuel, hf⟩ := h1
  obtain ⟨ys, hy, hy2⟩ := row_of tyI (x := (d1, _)) hf (fun es sp e => by
    have e' : d1 = .slice es sp := e
    subst e'
    have := sized_slice hsz (j := 1) (t := 38) (e := 3) rfl rfl Try.underlying38
    rw [Try.bInt] at this
    simp only [reachBytes] at this
    simp [kb]
    omega)
  have hl : ys.length ≤ 1048576 := by
    rcases hy2 with ⟨_, rfl⟩ | ⟨sp, e⟩
    · simp
    · have e' : d1 = .slice (lits .i64 ys) sp := e
      rw [e'] at hbd
      simp only [Rows.uptoBulk] at hbd
      have h1 := bulk_length (lits (H := H) .i64 ys)
      simp only [lits, List.length_map] at h1 hbd
      omega
  refine (walk W tv mv _ T M ys hT hM hy (by omega) hM24).mono fun e W' ⟨he, hk⟩ => ?_
  subst he
  exact ⟨_, rfl, post_law rfl (by kernel_rfl) (by kernel_rfl) hW' rfl hk⟩

set_option maxRecDepth 100000 in
theorem laid_met (os : Os) : laidMet Try.prog Rows.vocabDecodesUptoRow.laid ((layIn (World.holding Try.prog os ⟨#[], #[], []⟩)).forCall (fun _ _ => 0) ⟨#[], #[.agg #[.slice none 0 0, .slice none 0 0], .slice none 0 0], []⟩).memory :=
  laidMet_of_run' 8 (by kernel_rfl) (by kernel_rfl)
set_option maxRecDepth 100000 in
theorem reads (os : Os) {H : Type} (enc : TypeId × Value → H) : ∃ places, DataW.whole enc Try.prog ((layIn (World.holding Try.prog os ⟨#[], #[], []⟩)).forCall (fun _ _ => 0) ⟨#[], #[.agg #[.slice none 0 0, .slice none 0 0], .slice none 0 0], []⟩).memory Try.f5.params.toList Rows.vocabDecodesSpec.vars false (#[.agg #[.slice none 0 0, .slice none 0 0], .slice none 0 0] : Array Value).toList 8 = some ([.agg [.nil, .nil], .nil], [], places) :=
  ⟨[], by kernel_rfl⟩

set_option maxRecDepth 100000 in
theorem lifted (os : Os) (started : os.Started) (H : Type) (enc : TypeId × Value → H) (F : Stop.Interp) :
    ReturnsInHanded {} Try.checked os 5 .any ((Rows.OpenSpec.upto Rows.vocabDecodesSpec).preRow enc Try.prog Try.f5 Rows.vocabDecodesUptoRow.domain false Rows.vocabDecodesUptoRow.laid) (((Rows.OpenSpec.upto Rows.vocabDecodesSpec).at F).post enc Try.prog Try.f5 false true false false) := by
  obtain ⟨places, hx⟩ := reads os enc
  refine returnsInHanded_of_row (C := Try.checked) (s := Rows.OpenSpec.upto Rows.vocabDecodesSpec) Try.own started (by kernel_rfl) Try.func5
    (witness_row_at (enc := enc) (C := Try.checked) false (layIn (World.holding Try.prog os ⟨#[], #[], []⟩)) #[.agg #[.slice none 0 0, .slice none 0 0], .slice none 0 0] rfl (by kernel_rfl) (by kernel_rfl) (by kernel_rfl)
      (OpenSpec.preRow_of_cond 8 hx (by kernel_rfl) (fun k hk => by cases hk; kernel_rfl) (by kernel_rfl) (laid_met os))) ?_
  intro W base args ds gs before hval hW _ hc hsz hL _ _
  exact contract H enc W base args ds gs before hval hW (hc _ rfl) hsz hL

theorem said : Rows.VocabDecodesUptoSaid :=
  OpenClaim.holds_of_cond 5 Try.f5 rfl rfl rfl rfl rfl rfl rfl ⟨rfl, rfl, rfl, rfl, rfl⟩ rfl rfl rfl rfl rfl (by kernel_rfl) Try.func5 (by kernel_rfl)
    (of_decide_eq_true (by kernel_rfl)) (by unfold Func.isWrapper; first | (rw [if_pos (by decide +kernel)]; kernel_rfl) | (rw [if_neg (by decide +kernel)]; exact ⟨rfl, rfl⟩))
    (fun os started H enc _ F => by rw [OpenClaim.pre_eq_preRow]; exact lifted os started H enc F)


end Go.Proofs.Ytjjpkidmlpmgaaa.VDecodes
namespace Go.Proofs.Ytjjpkidmlpmgaaa
theorem vocabDecodes_upto_holds : Rows.VocabDecodesUptoSaid := VDecodes.said
end Go.Proofs.Ytjjpkidmlpmgaaa
