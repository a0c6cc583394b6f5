/-
  For all pieces the statement StreamMarks answers true: Marks answers as the document has it; the marks rise, and the last is the length of the clean form of all.
-/
import Derived.Test.YtkkaaoflolgaiabDoorSub
import Derived.Test.YtkkaaoflolgaiabDoorStj
import Derived.Test.YtkkaaoflolgaiabDoorRgo
import Derived.Lib.Join
import Derived.Deep.DeepWitnessRowRef
namespace Go.Proofs.YtkkaaoflolgaiabDoor.SMarks
open Go.ChangeShapes Go.WideShapes Go.ChangeAt Go.RowKit Go.Lib Go.Maps Go.Shelf

theorem caF_take (T : List (List UInt8)) : ∀ i, i ≤ T.length → caF T i = (T.take i).flatten
  | 0, _ => by simp [caF]
  | i + 1, h => by
    have hi : i < T.length := by omega
    show caF T i ++ tX T i = _
    rw [caF_take T i (by omega), List.take_add_one, List.getElem?_eq_getElem hi, List.flatten_append, tX, List.getD_eq_getElem?_getD, List.getElem?_eq_getElem hi]
    simp
theorem join_caF (T : List (List UInt8)) : Lib.join T [] = caF T T.length := by
  rw [caF_take T _ (Nat.le_refl _), List.take_length]
  cases T with
  | nil => rfl
  | cons x r => rw [Lib.join_cons, List.flatten_cons]; congr 1; unfold Lib.joinTail; simp
theorem join_any {p : Nat → Prop} (T : List (List UInt8)) (v : Value) (W : World) (hR : TxR p W v T) (hb : (caF T T.length).length ≤ 1048576) :
    Calls Tryd.prog 12 #[v, .string ⟨#[]⟩] W fun e w' => e = .returned (sV (caF T T.length)) ∧ Fresh W w' := by
  have h20 := hR.len
  obtain ⟨ao, cap, rfl⟩ := hR.shape
  obtain ⟨_, hcap, hcell⟩ := hR.cells
  by_cases h0 : T.length = 0
  · have hT : T = [] := List.length_eq_zero_iff.1 h0
    subst hT
    exact (Tryd.strings_Join_none ao cap ⟨#[]⟩ W).mono (fun e w' ⟨he, hw⟩ => ⟨he, by rw [hw]; exact Kept.refl _ _⟩)
  · obtain ⟨bk, o, rfl, _, hbk, hc⟩ := hcell (by omega)
    have hmap : (T.map (fun l => (⟨l.toArray⟩ : ByteArray))).map (·.data.toList) = T := by
      rw [List.map_map]
      conv => rhs; rw [← List.map_id T]
      exact List.map_congr_left (fun l _ => rfl)
    have h := Tryd.strings_Join bk o cap (T.map (fun l => (⟨l.toArray⟩ : ByteArray))) ⟨#[]⟩ W (fun j x hx => by
      rw [List.getElem?_map] at hx
      have hj : j < T.length := by
        by_cases e : j < T.length
        · exact e
        · rw [List.getElem?_eq_none (by omega)] at hx; cases hx
      rw [List.getElem?_eq_getElem hj] at hx
      injection hx with hx
      rw [hc j hj, ← hx, tX, List.getD_eq_getElem?_getD, List.getElem?_eq_getElem hj]
      rfl) hbk (by rw [List.length_map]; omega) (by rw [List.length_map]; exact hcap) (by rw [hmap, show ((⟨#[]⟩ : ByteArray).data.toList) = [] from rfl, join_caF]; omega)
    rw [hmap, show ((⟨#[]⟩ : ByteArray).data.toList) = [] from rfl, join_caF, List.length_map] at h
    exact h.mono (fun e w' ⟨he, hw⟩ => ⟨he, Kept.ofBelow hw (fun i hi e => by omega)⟩)

set_option maxHeartbeats 8000000 in
set_option maxRecDepth 100000 in
theorem walk {p : Nat → Prop} (w : World) (v : Value) (T : List (List UInt8)) (hR : TxR p w v T) (hb : (caF T T.length).length ≤ 1048576) (hm : TbM w) :
    Calls Tryd.prog 3 #[v] w fun e w' => e = .returned (.bool true) ∧ Fresh w w' := by
  have HA := show Hid _ from awake_any w hm
  have HM : Hid (∀ W, Fresh w W → Calls Tryd.prog 9 #[v] W fun e w' => ∃ rv, e = .returned rv ∧ InR (fun _ => True) w' rv (mkL T) ∧ Fresh W w') := fun W hk => Marks_any T v W (hR.fresh hk) hb (hm.fresh hk)
  have HD : Hid (∀ W, Fresh w W → Calls Tryd.prog 10 #[v] W fun e w' => ∃ rv, e = .returned rv ∧ InR (fun _ => True) w' rv (mkL T) ∧ Fresh W w') := fun W hk => refMarks_any T v W (hR.fresh hk) hb
  have HJ : Hid (∀ W, Fresh w W → Calls Tryd.prog 12 #[v, .string ⟨#[]⟩] W fun e w' => e = .returned (sV (caF T T.length)) ∧ Fresh W w') := fun W hk => join_any T v W (hR.fresh hk) hb
  have HC : Hid (∀ W, Calls Tryd.prog 11 #[sV (caF T T.length)] W fun e w' => e = .returned (sV (clL (caF T T.length))) ∧ Fresh W w') := fun W => Clean_any _ W (by omega)
  have HRise : Hid (∀ j, j < T.length → gI (mkL T) j ≤ gI (mkL T) (j + 1)) := fun j hj => mkL_rise T j hj
  have HLast : Hid (gI (mkL T) T.length = ((clL (caF T T.length)).length : Int)) := mkL_last T
  have hCs : (⟨(clL (caF T T.length)).toArray⟩ : ByteArray).size = (clL (caF T T.length)).length := len_l _
  have hCl := clL_le (caF T T.length)
  have hLl : Hid ((mkL T).length = T.length + 1) := mkL_len T
  have h20 := hR.len
  obtain ⟨ao, cap, rfl⟩ := hR.shape
  clear hR hm
  generalize clL (caF T T.length) = C at *
  generalize caF T T.length = A at *
  generalize mkL T = L at *
  generalize T.length = n at *
  go_enter Tryd.func3, Tryd.ntmps3
  go_wp2_with fail
  refine Calls.mono HA.out ?_
  rintro e' W1 ⟨rfl, hF1⟩
  have HF1 : Hid (Fresh w W1) := hF1
  have HM1 := show Hid _ from HM.out W1 hF1
  clear HA hF1 HM
  go_wp2_with fail
  refine Calls.mono HM1.out ?_
  rintro e' W2 ⟨rv1, rfl, hI1, hF2⟩
  have HF2 : Hid (Fresh w W2) := HF1.out.trans hF2 (fun _ _ e => e)
  have HI1 : Hid (InR (fun _ => True) W2 rv1 L) := hI1
  obtain ⟨a1, c1, rfl, _⟩ := hI1
  have HD2 := show Hid _ from HD.out W2 HF2.out
  rw [hLl.out] at HI1
  clear HM1 hF2 HF1 HD
  rw [hLl.out]
  go_wp2_with fail
  refine Calls.mono HD2.out ?_
  rintro e' W3 ⟨rv2, rfl, hI2, hF3⟩
  have HF3 : Hid (Fresh w W3) := HF2.out.trans hF3 (fun _ _ e => e)
  have hI1 := HI1.out.fresh hF3
  obtain ⟨a2, c2, rfl, hx2⟩ := hI2
  have hI2 : InR (fun _ => True) W3 (.slice a2 L.length c2) L := ⟨a2, c2, rfl, hx2⟩
  rw [hLl.out] at hI2
  obtain ⟨_, _, hce1⟩ := hI1.cells
  obtain ⟨_, _, hce2⟩ := hI2.cells
  obtain ⟨b1, o1, rfl, _, hbl1, hc1⟩ := hce1 (by omega)
  obtain ⟨b2, o2, rfl, _, hbl2, hc2⟩ := hce2 (by omega)
  have HC1 : Hid (∀ i, i < n + 1 → W3.cell? ⟨b1, o1 + i, none⟩ = some (zV (gI L i))) := hc1
  have HC2 : Hid (∀ i, i < n + 1 → W3.cell? ⟨b2, o2 + i, none⟩ = some (zV (gI L i))) := hc2
  rw [hLl.out]
  clear HD2 hF3 HF2 hI1 hI2 hce1 hce2 hc1 hc2 HI1 hx2
  go_wp2
  go_loopw [28] (fun iv wr => ∃ i : Nat, i ≤ n + 1 ∧ iv = zV i ∧ wr = W3) (fun iv _ => n + 1 - (RowKit.intOf iv).toNat)
  case atStart => exact ⟨0, Nat.zero_le _, rfl, rfl⟩
  case round =>
    obtain ⟨i, hi, rfl, hWW⟩ := hrel
    have hWW' := hWW.symm
    subst hWW'
    clear hWW
    by_cases hlt : i < n + 1
    · have hlt' : (i : Int) < (n : Int) + 1 := by omega
      have k1 := HC1.out i hlt
      have k2 := HC2.out i hlt
      cases i with
      | zero =>
        generalize gI L 0 = x at *
        have hxx : (x == x) = true := beq_self_eq_true _
        simp only [Nat.add_zero] at k1 k2
        go_wp2
        go_roundw
        case rel => exact ⟨1, by omega, by go_num, by first | rfl | trivial⟩
        case measure => simp [RowKit.intOf]; try omega
      | succ j =>
        have k3 := HC1.out j (by omega)
        have hr := HRise.out j (by omega)
        generalize gI L (j + 1) = x at *
        generalize gI L j = y at *
        have hxx : (x == x) = true := beq_self_eq_true _
        have hd : decide (x < y) = false := decide_eq_false (by omega)
        have h0 : decide ((0 : Int) < (j : Int) + 1) = true := decide_eq_true (by omega)
        go_wp2
        go_roundw
        case rel => exact ⟨j + 2, by omega, by go_num, by first | rfl | trivial⟩
        case measure => simp [RowKit.intOf]; omega
    · have hlt' : ¬ (i : Int) < (n : Int) + 1 := by omega
      have hin : i = n + 1 := by omega
      subst hin
      have kd : ∀ d : Nw W3, d.w.cell? ⟨b1, o1 + n, none⟩ = some (zV (C.length : Int)) := fun d => by
        rw [d.f.cell (p := ⟨b1, o1 + n, none⟩) hbl1 (fun e => e), HC1.out n (by omega), HLast.out]
      have HJd : Hid (∀ d : Nw W3, Calls Tryd.prog 12 #[.slice ao n cap, .string ⟨#[]⟩] d.w fun e w' => e = .returned (sV A) ∧ Fresh d.w w') := fun d => HJ.out d.w (HF3.out.trans d.f (fun _ _ e => e))
      have HCd : Hid (∀ d : Nw W3, Calls Tryd.prog 11 #[sV A] d.w fun e w' => e = .returned (sV C) ∧ Fresh d.w w') := fun d => HC.out d.w
      have HFd : Hid (∀ d : Nw W3, Fresh w d.w) := fun d => HF3.out.trans d.f (fun _ _ e => e)
      clear HJ HC HF3 HLast HRise HC1 HC2
      haveI : Nonempty (Nw W3) := nw_some W3
      go_wp2
      refine wp_region_new (by kernel_rfl) (by kernel_rfl) ?_
      repeat (first | go_big_quiet_step ((first | (with_reducible exact Calls.new_of (HJd.out _)) | (with_reducible exact Calls.new_of (HCd.out _)))) | quiet_step ((first | (with_reducible exact Calls.new_of (HJd.out _)) | (with_reducible exact Calls.new_of (HCd.out _)))))
      refine wpQuiet_nil ?_
      intro _ hw'
      obtain ⟨dq, hw''⟩ := hw'
      subst hw''
      have HF4 : Hid (Fresh w dq.w) := HFd.out dq
      clear kd HJd HCd HFd
      generalize dq.w = W4 at *
      go_wp2
      go_ret
      exact ⟨by simp, HF4.out⟩

set_option maxRecDepth 100000 in
theorem contract (H : Type) (enc : TypeId × Value → H) (W : World) (base : Nat) (args : Array Value) (ds gs : List (DataW H)) (before : List MemPlace)
    (hval : ∀ (j : Nat) t v, Tryd.f3.params[j]? = some t → args[j]? = some v → Value.okWide Tryd.prog W .any base t v)
    (hW : DataW.Whole enc Tryd.prog Tryd.f3.params.toList Rows.streamMarksSpec.vars false W args.toList ds gs before) (hbk : Rows.uptoSmall H (ds ++ gs) = true)
    (hsz : (DataW.weightsEach Tryd.prog (Tryd.f3.params.toList ++ []) (ds ++ gs)).all (· ≤ reachBytes) = true) (hsh : W.ShapedOpen Tryd.prog) (hL : laidMetH Tryd.prog Rows.streamMarksRow.laid W) :
    Calls Tryd.prog 3 args W fun e W' => ∃ v, e = .returned v ∧ Rows.streamMarksSpec.post enc Tryd.prog Tryd.f3 false true false false W args v W' := by
  have hW' := hW
  obtain ⟨p, q, hA0, hV, rfl, hfz, hnd⟩ := hW
  have hA : DataW.TrodAll enc Tryd.prog W 0 (fun _ => true) true Tryd.f3.params.toList args.toList ds p := hA0
  rw [Tryd.params3] at hA hval hsz
  obtain ⟨rfl, rfl⟩ := trodVars_none hV
  obtain ⟨v0, d0, rfl, rfl, h0⟩ := trodAll_one hA
  have hbd := bulk_le hbk
  simp only [List.append_nil, Rows.uptoBulkAll, Nat.add_zero] at hbd
  obtain ⟨T, hT, hb⟩ := txs_of (hval 0 22 v0 rfl rfl) h0 (by omega)
  refine (walk W v0 T hT hb (tbm_of hL hsh)).mono fun e W' ⟨he, hk⟩ => ?_
  subst he
  exact ⟨_, rfl, post_law rfl (by kernel_rfl) (by kernel_rfl) hW' rfl hk⟩

set_option maxRecDepth 100000 in
theorem laid_met (os : Os) : laidMet Tryd.prog Rows.streamMarksUptoRow.laid ((layIn (World.holding Tryd.prog os ⟨#[], #[], []⟩)).forCall (fun _ _ => 0) ⟨#[], #[.slice none 0 0], []⟩).memory :=
  laidMet_of_run' 8 (by kernel_rfl) (by kernel_rfl)
set_option maxRecDepth 100000 in
theorem reads (os : Os) {H : Type} (enc : TypeId × Value → H) : ∃ places, DataW.whole enc Tryd.prog ((layIn (World.holding Tryd.prog os ⟨#[], #[], []⟩)).forCall (fun _ _ => 0) ⟨#[], #[.slice none 0 0], []⟩).memory Tryd.f3.params.toList Rows.streamMarksSpec.vars false (#[.slice none 0 0] : Array Value).toList 8 = some ([.nil], [], places) :=
  ⟨[], by kernel_rfl⟩

set_option maxRecDepth 100000 in
theorem lifted (os : Os) (started : os.Started) (H : Type) (enc : TypeId × Value → H) (F : Stop.Interp) :
    ReturnsInHanded {} Tryd.checked os 3 .any ((Rows.OpenSpec.upto Rows.streamMarksSpec).preRow enc Tryd.prog Tryd.f3 Rows.streamMarksUptoRow.domain false Rows.streamMarksUptoRow.laid) (((Rows.OpenSpec.upto Rows.streamMarksSpec).at F).post enc Tryd.prog Tryd.f3 false true false false) := by
  obtain ⟨places, hx⟩ := reads os enc
  refine returnsInHanded_of_row (C := Tryd.checked) (s := Rows.OpenSpec.upto Rows.streamMarksSpec) Tryd.own started (by kernel_rfl) Tryd.func3
    (witness_row_atRef (enc := enc) (C := Tryd.checked) false (layIn (World.holding Tryd.prog os ⟨#[], #[], []⟩)) #[.slice none 0 0] rfl (by kernel_rfl) (by kernel_rfl) (by kernel_rfl)
      (OpenSpec.preRow_of_cond 8 hx (by kernel_rfl) (fun k hk => by cases hk; kernel_rfl) (by kernel_rfl) (laid_met os))) ?_
  intro W base args ds gs before hval hW _ hc hsz hL hsh _
  exact contract H enc W base args ds gs before hval hW (hc _ rfl) hsz hsh hL

theorem said : Rows.StreamMarksUptoSaid :=
  OpenClaim.holds_of_cond 3 Tryd.f3 rfl rfl rfl rfl rfl rfl rfl ⟨rfl, rfl, rfl, rfl, rfl⟩ rfl rfl rfl rfl rfl (by kernel_rfl) Tryd.func3 (by kernel_rfl)
    (of_decide_eq_true (by kernel_rfl)) (by unfold Func.isWrapper; first | (rw [if_pos (by decide +kernel)]; kernel_rfl) | (rw [if_neg (by decide +kernel)]; exact ⟨rfl, rfl⟩))
    (fun os started H enc _ F => by rw [OpenClaim.pre_eq_preRow]; exact lifted os started H enc F)

theorem plain (f : FuncId) (fn : Func) (hf : Tryd.pinned.checked.prog.funcNamed Rows.streamMarksUptoRow.func = some f) (hfn : Tryd.pinned.checked.prog.funcs[f]? = some fn) :
    true = Tryd.pinned.checked.prog.looks [] ∧ ∀ (j : Nat) t, fn.params[j]? = some t → Tryd.pinned.checked.prog.wantsStandIn t = false := by
  obtain rfl : f = 3 := Option.some.inj ((show Tryd.prog.funcNamed Rows.streamMarksUptoRow.func = some 3 by kernel_rfl).symm.trans hf) |>.symm
  obtain rfl : fn = Tryd.f3 := (Option.some.inj (Tryd.func3.symm.trans hfn)).symm
  refine ⟨by kernel_rfl, fun j t ht => ?_⟩
  have hall : (Tryd.f3.params.toList.all fun u => !Tryd.prog.wantsStandIn u) = true := by kernel_rfl
  exact (show Tryd.prog.wantsStandIn t = false by simpa using List.all_eq_true.1 hall t (Array.mem_toList_iff.2 (Array.mem_of_getElem? ht)))

theorem card : Rows.StreamMarksUptoCardSaid :=
  Claim7.holds_tied_plain_at .later [] _ _ _ _ said (fun _ h => by cases h) (by kernel_rfl) (fun _ h => by cases h) streamMarksUpto_row_tie rfl ⟨rfl, rfl⟩ (by kernel_rfl) rfl plain (by kernel_rfl)

end Go.Proofs.YtkkaaoflolgaiabDoor.SMarks
namespace Go.Proofs.YtkkaaoflolgaiabDoor
theorem streamMarks_upto_card : Rows.StreamMarksUptoCardSaid := SMarks.card
end Go.Proofs.YtkkaaoflolgaiabDoor
