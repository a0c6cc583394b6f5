/-
  For every list of stop texts and every script of calls the statement StreamPlays answers true: each call on a stream answers as the document's.
-/
import Derived.Test.YtomeoklhjdgaoaaDoorSux
import Derived.Test.YtomeoklhjdgaoaaDoorRgo
import Derived.Lib.AppendZeros
namespace Go.Proofs.YtomeoklhjdgaoaaDoor.SPlays
open Go.ChangeShapes Go.WideShapes Go.ChangeAt Go.RowKit Go.Lib Go.Maps

theorem six_name {W : World} {z : Nat} {a0 a1 a2 a3 a4 a5 v0 v1 v2 v3 v4 v5 : Value} {t : TypeId} {G : World → Prop} (h0 : W.heap[z]? = some (.cells #[a0, a1, a2, a3, a4, a5] t (0, 0)))
    (h : ∀ Y, Y.heap[z]? = some (.cells #[v0, v1, v2, v3, v4, v5] t (0, 0)) → Kept (fun q => q = z) W Y → G Y) : G ((((((W.setCell ⟨z, 0, none⟩ v0).setCell ⟨z, 1, none⟩ v1).setCell ⟨z, 2, none⟩ v2).setCell ⟨z, 3, none⟩ v3).setCell ⟨z, 4, none⟩ v4).setCell ⟨z, 5, none⟩ v5) := by
  have h1 := six_set h0 v0 v1 v2 v3 v4 v5
  have h2 := six_kept (W := W) (z := z) v0 v1 v2 v3 v4 v5
  generalize ((((((W.setCell ⟨z, 0, none⟩ v0).setCell ⟨z, 1, none⟩ v1).setCell ⟨z, 2, none⟩ v2).setCell ⟨z, 3, none⟩ v3).setCell ⟨z, 4, none⟩ v4).setCell ⟨z, 5, none⟩ v5) = X at h1 h2 ⊢
  exact h X h1 h2
set_option maxHeartbeats 1000000 in
set_option maxRecDepth 100000 in
theorem walk (w : World) (tv ov : Value) (T : List (List UInt8)) (L : List So) (hT : TxR (fun b => b < w.heap.size) w tv T) (hL : OpR w ov L) (hm : TbM w) :
    Calls Tryd.prog 4 #[tv, ov] w fun e w' => e = .returned (.bool true) ∧ Fresh w w' := by
  have HB := show Hid _ from begun_any T tv w hT hm
  have HM : Hid (∀ X, Fresh w X → TbM X) := fun X hX => hm.fresh hX
  have HL : Hid (∀ X, Fresh w X → OpR X ov L) := fun X hX => hL.fresh hX
  obtain ⟨oa, oc, rfl, hn1, hps, hI, _⟩ := hL
  obtain ⟨n, hn⟩ : ∃ n, L.length = n := ⟨_, rfl⟩
  rw [hn] at HL hn1 hps hI
  rw [hn]
  have HPS : Hid (psF L n ≤ 1048576) := hps
  have HI : Hid (∀ i, i < n → I64 (gO L i).k) := hI
  have HN : Hid (L.length = n) := hn
  clear hT hm hps hI hn
  go_enter Tryd.func4, Tryd.ntmps4
  go_wp2_with fail
  refine Calls.mono HB.out ?_
  rintro e W1 ⟨pv, F, so, sn, sc, no, rfl, hpl, hn0, hf1, hpv⟩
  have hk2 : Fresh W1 (W1.alloc (.cells #[.bool no, .slice so sn sc, sV [], sV [], zV (-1), .bool false] 30)) := (Kept.refl _ W1).alloc _
  have HS0 : Hid (PyS T (fun q => F q ∧ q < W1.heap.size) w W1 (W1.alloc (.cells #[.bool no, .slice so sn sc, sV [], sV [], zV (-1), .bool false] 30)) W1.heap.size pv so sn sc no 0 [] [] (-1) false (fun q => F q ∧ q < W1.heap.size)) :=
    ⟨hpl.low.fresh hk2, Mvd.fresh hk2, fun q e => Nat.lt_of_lt_of_le e.2 hk2.size, fun e => by omega, Nat.le_refl _, heap_alloc_new W1 _, Nat.le_refl _, hf1.trans hk2 (fun _ _ e => e), hpl.low, fun q e => hn0 q e.1, hf1⟩
  clear hpl hn0 hf1 hk2 HB
  go_upto_region 2 with fail
  generalize W1.alloc (.cells #[.bool no, .slice so sn sc, sV [], sV [], zV (-1), .bool false] 30) = W2 at *
  generalize W1.heap.size = mb at *
  have HAW := show Hid _ from awake_any W2 (HM.out W2 HS0.out.fr)
  go_wp2_with fail
  refine Calls.mono HAW.out ?_
  rintro e W3 ⟨rfl, hf3⟩
  generalize (fun q => F q ∧ q < mb) = F1 at *
  have HS1 : Hid (PyS T F1 w W1 W3 mb pv so sn sc no (psF L 0) [] [] (-1) false F1) := HS0.out.fresh hf3
  clear HS0 hf3 HAW hpv
  go_wp2
  go_loopw [7, 24] (fun okv iv wr => ∃ (i : Nat) (all out : List UInt8) (met : Int) (en : Bool) (F' : Nat → Prop), i ≤ n ∧ iv = zV i ∧ okv = .bool true ∧ Hid (PyS T F1 w W1 wr mb pv so sn sc no (psF L i) all out met en F')) (fun _ iv _ => n - (RowKit.intOf iv).toNat)
  case atStart => exact ⟨0, [], [], -1, false, F1, Nat.zero_le _, rfl, rfl, HS1.out⟩
  case round =>
    obtain ⟨i, all, out, met, en, F', hi, rfl, rfl, HS⟩ := hrel
    clear HS1
    by_cases hlt : i < n
    · have hlt' : (i : Int) < (n : Int) := by omega
      obtain ⟨ao', cap', hv', _, _, _, hcell⟩ := HL.out wr HS.out.fr
      injection hv' with e1 e2 e3
      subst e1 e3
      obtain ⟨bb, off, rfl, _, hcc⟩ := hcell (by rw [HN.out]; omega)
      obtain ⟨c0, c1⟩ := hcc i (by rw [HN.out]; exact hlt)
      have hki := HI.out i hlt
      have HPN : Hid (psF L (i + 1) = psF L i + (gO L i).p.length) := rfl
      have hbd1 : psF L i ≤ 1048576 := Nat.le_trans (psF_le (by omega)) HPS.out
      have hbd2 : psF L (i + 1) ≤ 1048576 := Nat.le_trans (psF_le (by omega)) HPS.out
      have hfa : Fresh wr (wr.alloc (.cells #[zV (gO L i).k, sV (gO L i).p] 34)) := (Kept.refl _ wr).alloc _
      have HSa := show Hid _ from HS.out.fresh hfa
      have HWB := show Hid _ from heap_alloc_new wr (.cells #[zV (gO L i).k, sV (gO L i).p] 34)
      have HPB : Hid (psF L i + (gO L i).p.length ≤ 1048576) := by show _ ≤ _; rw [← HPN.out]; exact hbd2
      clear hcc hcell e2 hfa hbd2
      generalize (gO L i).k = kk at *
      generalize (gO L i).p = pp at *
      go_upto_region 7 with fail
      clear c0 c1
      generalize wr.alloc (.cells #[zV kk, sV pp] 34) = X0 at *
      generalize wr.heap.size = ob at *
      have o0 : X0.cell? ⟨ob, 0, none⟩ = some (zV kk) := by rw [Lib.cell_of_heap HWB.out]; rfl
      have o1 : X0.cell? ⟨ob, 1, none⟩ = some (sV pp) := by rw [Lib.cell_of_heap HWB.out]; rfl
      obtain ⟨m0, m1, m2, m3, m4, m5, _⟩ := six_cells HSa.out.bx
      have HST := show Hid _ from step_any T F' X0 pv so sn sc no en all out pp met kk HSa.out.pl HSa.out.lo hki (by have := HSa.out.le; have := HPB.out; omega) (HM.out X0 HSa.out.fr)
      have HLE : Hid (all.length + pp.length ≤ psF L (i + 1)) := by have := HSa.out.le; have := HPN.out; show _ ≤ _; omega
      clear hki hbd1 HWB HPB HPN HS
      go_wp2_with fail
      refine Calls.mono HST.out ?_
      rintro e X ⟨all', out', met', en', F'', rfl, hpl', hmv', hlen'⟩
      have hbx' := hmv'.1.at HSa.out.bx HSa.out.mF
      obtain ⟨z0, z1, z2, z3, z4, z5, zf⟩ := six_cells hbx'
      have HNX : Hid (∀ Y, Y.heap[mb]? = some (.cells #[.bool no, .slice so sn sc, sV all', sV out', zV met', .bool en'] 30 (0, 0)) → Kept (fun q => q = mb) X Y → PyS T F1 w W1 Y mb pv so sn sc no (psF L (i + 1)) all' out' met' en' (fun q => F'' q ∧ q < X.heap.size)) := fun Y hb hk => HSa.out.next hpl' hmv' (Nat.le_trans hlen' HLE.out) hb hk
      have HBX := show Hid _ from hbx'
      clear hpl' hmv' hlen' hbx' HSa HST HLE m0 m1 m2 m3 m4 m5 o0 o1
      go_upto_region 8 with fail
      refine six_name (G := fun Y => Code.wp _ _ _ _ Y) HBX.out ?_
      intro Y hbY hkY
      have HSn := show Hid _ from HNX.out Y hbY hkY
      clear HNX HBX hbY hkY z0 z1 z2 z3 z4 z5 zf
      go_wp2
      go_roundw
      case rel => exact ⟨i + 1, all', out', met', en', _, hlt, by go_num, rfl, HSn.out⟩
      case measure => simp [RowKit.intOf]; omega
    · obtain rfl : i = n := by omega
      have hlt' : ¬ ((i : Int) < (i : Int)) := by omega
      go_upto_region 11 with fail
      have u3 : ∀ d : Nw wr, d.w.cell? ⟨mb, 3, none⟩ = some (sV out) := fun d => (six_cells (HS.out.fresh d.f).bx).2.2.2.1
      have KT : Hid (∀ d : Nw wr, Calls Tryd.prog 15 #[pv] d.w fun e w' => e = .returned (sV out) ∧ Fresh d.w w') := fun d => ((HS.out.fresh d.f).pl.text).mono (fun e w' ⟨he, hw⟩ => ⟨he, by rw [hw]; exact Kept.refl _ _⟩)
      have HFW : Hid (∀ d : Nw wr, Fresh w d.w) := fun d => HS.out.fr.trans d.f (fun _ _ e => e)
      have hoo : (out == out) = true := beq_self_eq_true _
      clear HS HL HI HM
      haveI : Nonempty (Nw wr) := nw_some wr
      refine wp_region_new (by kernel_rfl) (by kernel_rfl) ?_
      repeat (go_big_quiet_step ((with_reducible exact Calls.new_of (KT.out _))))
      refine wpQuiet_nil ?_
      intro _ hw'
      obtain ⟨dq, hw''⟩ := hw'
      subst hw''
      go_wp2
      go_ret
      exact ⟨by first | rfl | simp, HFW.out dq⟩

set_option maxRecDepth 100000 in
theorem contract (H : Type) (enc : TypeId × Value → H) (W : World) (base : Nat) (args : Array Value) (ds gs : List (DataW H)) (before : List MemPlace)
    (hval : ∀ (j : Nat) t v, Tryd.f4.params[j]? = some t → args[j]? = some v → Value.okWide Tryd.prog W .any base t v)
    (hW : DataW.Whole enc Tryd.prog Tryd.f4.params.toList Rows.streamPlaysSpec.vars false W args.toList ds gs before) (hbk : Rows.uptoSmall H (ds ++ gs) = true)
    (hsz : (DataW.weightsEach Tryd.prog (Tryd.f4.params.toList ++ []) (ds ++ gs)).all (· ≤ reachBytes) = true) (hsh : W.ShapedOpen Tryd.prog) (hL : laidMetH Tryd.prog Rows.streamPlaysRow.laid W) :
    Calls Tryd.prog 4 args W fun e W' => ∃ v, e = .returned v ∧ Rows.streamPlaysSpec.post enc Tryd.prog Tryd.f4 false true false false W args v W' := by
  have hW' := hW
  obtain ⟨p, q, hA0, hV, rfl, hfz, hnd⟩ := hW
  have hA : DataW.TrodAll enc Tryd.prog W 0 (fun _ => true) true Tryd.f4.params.toList args.toList ds p := hA0
  rw [Tryd.params4] at hA hval hsz
  obtain ⟨rfl, rfl⟩ := trodVars_none hV
  obtain ⟨v0, v1, d0, d1, p0, p1, rfl, rfl, rfl, h0, h1⟩ := trodAll_two hA
  have hbd := bulk_le hbk
  simp only [List.append_nil, Rows.uptoBulkAll, Nat.add_zero] at hbd
  obtain ⟨T, hT⟩ := txr_of (hval 0 26 v0 rfl rfl) h0 (by omega)
  obtain ⟨L, hLo⟩ := ops_of (hval 1 27 v1 rfl rfl) h1 (by omega)
  refine (walk W v0 v1 T L hT hLo (tbm_of hL hsh)).mono fun e W' ⟨he, hk⟩ => ?_
  subst he
  exact ⟨_, rfl, post_law rfl (by kernel_rfl) (by kernel_rfl) hW' rfl hk⟩

set_option maxRecDepth 100000 in
theorem laid_met (os : Os) : laidMet Tryd.prog Rows.streamPlaysUptoRow.laid ((layIn (World.holding Tryd.prog os ⟨#[], #[], []⟩)).forCall (fun _ _ => 0) ⟨#[], #[.slice none 0 0, .slice none 0 0], []⟩).memory :=
  laidMet_of_run' 8 (by kernel_rfl) (by kernel_rfl)
set_option maxRecDepth 100000 in
theorem reads (os : Os) {H : Type} (enc : TypeId × Value → H) : ∃ places, DataW.whole enc Tryd.prog ((layIn (World.holding Tryd.prog os ⟨#[], #[], []⟩)).forCall (fun _ _ => 0) ⟨#[], #[.slice none 0 0, .slice none 0 0], []⟩).memory Tryd.f4.params.toList Rows.streamPlaysSpec.vars false (#[.slice none 0 0, .slice none 0 0] : Array Value).toList 8 = some ([.nil, .nil], [], places) :=
  ⟨[], by kernel_rfl⟩

set_option maxRecDepth 100000 in
theorem lifted (os : Os) (started : os.Started) (H : Type) (enc : TypeId × Value → H) (F : Stop.Interp) :
    ReturnsInHanded {} Tryd.checked os 4 .any ((Rows.OpenSpec.upto Rows.streamPlaysSpec).preRow enc Tryd.prog Tryd.f4 Rows.streamPlaysUptoRow.domain false Rows.streamPlaysUptoRow.laid) (((Rows.OpenSpec.upto Rows.streamPlaysSpec).at F).post enc Tryd.prog Tryd.f4 false true false false) := by
  obtain ⟨places, hx⟩ := reads os enc
  refine returnsInHanded_of_row (C := Tryd.checked) (s := Rows.OpenSpec.upto Rows.streamPlaysSpec) Tryd.own started (by kernel_rfl) Tryd.func4
    (witness_row_at (enc := enc) (C := Tryd.checked) false (layIn (World.holding Tryd.prog os ⟨#[], #[], []⟩)) #[.slice none 0 0, .slice none 0 0] rfl (by kernel_rfl) (by kernel_rfl) (by kernel_rfl)
      (OpenSpec.preRow_of_cond 8 hx (by kernel_rfl) (fun k hk => by cases hk; kernel_rfl) (by kernel_rfl) (laid_met os))) ?_
  intro W base args ds gs before hval hW _ hc hsz hL hsh _
  exact contract H enc W base args ds gs before hval hW (hc _ rfl) hsz hsh hL

theorem said : Rows.StreamPlaysUptoSaid :=
  OpenClaim.holds_of_cond 4 Tryd.f4 rfl rfl rfl rfl rfl rfl rfl ⟨rfl, rfl, rfl, rfl, rfl⟩ rfl rfl rfl rfl rfl (by kernel_rfl) Tryd.func4 (by kernel_rfl)
    (of_decide_eq_true (by kernel_rfl)) (by unfold Func.isWrapper; first | (rw [if_pos (by decide +kernel)]; kernel_rfl) | (rw [if_neg (by decide +kernel)]; exact ⟨rfl, rfl⟩))
    (fun os started H enc _ F => by rw [OpenClaim.pre_eq_preRow]; exact lifted os started H enc F)

theorem plain (f : FuncId) (fn : Func) (hf : Tryd.pinned.checked.prog.funcNamed Rows.streamPlaysUptoRow.func = some f) (hfn : Tryd.pinned.checked.prog.funcs[f]? = some fn) :
    false = Tryd.pinned.checked.prog.looks [] ∧ ∀ (j : Nat) t, fn.params[j]? = some t → Tryd.pinned.checked.prog.wantsStandIn t = false := by
  obtain rfl : f = 4 := Option.some.inj ((show Tryd.prog.funcNamed Rows.streamPlaysUptoRow.func = some 4 by kernel_rfl).symm.trans hf) |>.symm
  obtain rfl : fn = Tryd.f4 := (Option.some.inj (Tryd.func4.symm.trans hfn)).symm
  refine ⟨by kernel_rfl, fun j t ht => ?_⟩
  have hall : (Tryd.f4.params.toList.all fun u => !Tryd.prog.wantsStandIn u) = true := by kernel_rfl
  exact (show Tryd.prog.wantsStandIn t = false by simpa using List.all_eq_true.1 hall t (Array.mem_toList_iff.2 (Array.mem_of_getElem? ht)))

theorem card : Rows.StreamPlaysUptoCardSaid :=
  Claim7.holds_tied_plain_at .later [] _ _ _ _ said (fun _ h => by cases h) (by kernel_rfl) (fun _ h => by cases h) streamPlaysUpto_row_tie rfl ⟨rfl, rfl⟩ (by kernel_rfl) rfl plain (by kernel_rfl)

end Go.Proofs.YtomeoklhjdgaoaaDoor.SPlays
namespace Go.Proofs.YtomeoklhjdgaoaaDoor
theorem streamPlays_upto_card : Rows.StreamPlaysUptoCardSaid := SPlays.card
end Go.Proofs.YtomeoklhjdgaoaaDoor
