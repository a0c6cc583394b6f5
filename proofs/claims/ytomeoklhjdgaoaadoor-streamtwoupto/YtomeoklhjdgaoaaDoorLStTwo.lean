/-
  For every two lists of stop texts and every script of calls the statement StreamTwo answers true: two streams, called in turns, each answer as the document's.
-/
import Derived.Test.YtomeoklhjdgaoaaDoorSuy
import Derived.Test.YtomeoklhjdgaoaaDoorRgo
import Derived.Lib.AppendZeros
namespace Go.Proofs.YtomeoklhjdgaoaaDoor.STwo
open Go.ChangeShapes Go.WideShapes Go.ChangeAt Go.RowKit Go.Lib Go.Maps

theorem six_name {W : World} {z : Nat} {a0 a1 a2 a3 a4 a5 v0 v1 v2 v3 v4 v5 : Value} {t : TypeId} {G : World → Prop} (h0 : W.heap[z]? = some (.cells #[a0, a1, a2, a3, a4, a5] t (0, 0)))
    (h : ∀ Y, Y.heap[z]? = some (.cells #[v0, v1, v2, v3, v4, v5] t (0, 0)) → Kept (fun q => q = z) W Y → G Y) : G ((((((W.setCell ⟨z, 0, none⟩ v0).setCell ⟨z, 1, none⟩ v1).setCell ⟨z, 2, none⟩ v2).setCell ⟨z, 3, none⟩ v3).setCell ⟨z, 4, none⟩ v4).setCell ⟨z, 5, none⟩ v5) := by
  have h1 := six_set h0 v0 v1 v2 v3 v4 v5
  have h2 := six_kept (W := W) (z := z) v0 v1 v2 v3 v4 v5
  generalize ((((((W.setCell ⟨z, 0, none⟩ v0).setCell ⟨z, 1, none⟩ v1).setCell ⟨z, 2, none⟩ v2).setCell ⟨z, 3, none⟩ v3).setCell ⟨z, 4, none⟩ v4).setCell ⟨z, 5, none⟩ v5) = X at h1 h2 ⊢
  exact h X h1 h2
set_option maxHeartbeats 2000000 in
set_option maxRecDepth 100000 in
theorem walk (w : World) (av bv ov : Value) (T1 T2 : List (List UInt8)) (L : List So) (hT1 : TxR (fun b => b < w.heap.size) w av T1) (hT2 : TxR (fun b => b < w.heap.size) w bv T2) (hL : OpR w ov L) (hm : TbM w) :
    Calls Tryd.prog 5 #[av, bv, ov] w fun e w' => e = .returned (.bool true) ∧ Fresh w w' := by
  have HB := show Hid _ from begun_any T1 av w hT1 hm
  have HM : Hid (∀ X, Fresh w X → TbM X) := fun X hX => hm.fresh hX
  have HL : Hid (∀ X, Fresh w X → OpR X ov L) := fun X hX => hL.fresh hX
  have HR2 : Hid (∀ X, Fresh w X → TxR (fun b => b < w.heap.size) X bv T2) := fun X hX => hT2.fresh hX
  obtain ⟨oa, oc, rfl, hn1, hps, hI, _⟩ := hL
  obtain ⟨n, hn⟩ : ∃ n, L.length = n := ⟨_, rfl⟩
  rw [hn] at HL hn1 hps hI
  rw [hn]
  have HPS : Hid (psF L n ≤ 1048576) := hps
  have HI : Hid (∀ i, i < n → I64 (gO L i).k) := hI
  have HN : Hid (L.length = n) := hn
  clear hT1 hT2 hm hps hI hn
  go_enter Tryd.func5, Tryd.ntmps5
  go_wp2_with fail
  refine Calls.mono HB.out ?_
  rintro e W1 ⟨p1, Fa, so1, sn1, sc1, no1, rfl, hpl, hn0, hf1, _, hrw⟩
  have hk2 : Fresh W1 (W1.alloc (.cells #[.bool no1, .slice so1 sn1 sc1, sV [], sV [], zV (-1), .bool false] 30)) := (Kept.refl _ W1).alloc _
  have HA : Hid (∃ (Z1 F1 : Nat → Prop) (B1 : Nat), PzS T1 Z1 B1 (W1.alloc (.cells #[.bool no1, .slice so1 sn1 sc1, sV [], sV [], zV (-1), .bool false] 30)) W1.heap.size p1 so1 sn1 sc1 no1 0 [] [] (-1) false F1 ∧ (∀ q, F1 q → Z1 q) ∧ (∀ q, Z1 q → w.heap.size ≤ q) ∧ w.heap.size ≤ W1.heap.size ∧ Fresh w (W1.alloc (.cells #[.bool no1, .slice so1 sn1 sc1, sV [], sV [], zV (-1), .bool false] 30))) :=
    ⟨_, _, _, PzS.start hpl hn0 hrw, fun q e => ⟨hn0 q e.1, e.2⟩, fun q e => e.1, hf1.size, hf1.trans hk2 (fun _ _ e => e)⟩
  clear hpl hn0 hf1 hk2 HB hrw
  go_upto_region 2 with fail
  generalize W1.alloc (.cells #[.bool no1, .slice so1 sn1 sc1, sV [], sV [], zV (-1), .bool false] 30) = W2 at *
  generalize W1.heap.size = m1 at *
  have hf2 : Fresh w W2 := by
    obtain ⟨_, _, _, _, _, _, _, hf⟩ := HA.out
    exact hf
  have HB2 := show Hid _ from begun_any T2 bv W2 (HR2.out W2 hf2) (HM.out W2 hf2)
  clear hf2
  go_wp2_with fail
  refine Calls.mono HB2.out ?_
  rintro e W3 ⟨p2, Fb, so2, sn2, sc2, no2, rfl, hpl, hn0, hf1, _, hrw⟩
  have HT : Hid (∃ (Z1 Z2 F1 F2 : Nat → Prop) (B : Nat), Twin T1 T2 Z1 Z2 B w (W3.alloc (.cells #[.bool no2, .slice so2 sn2 sc2, sV [], sV [], zV (-1), .bool false] 30)) m1 W3.heap.size p1 p2 so1 so2 sn1 sc1 sn2 sc2 no1 no2 0 [] [] [] [] (-1) (-1) false false F1 F2) := by
    obtain ⟨Z1, F1, B1, a1, a2, a3, a4, a5⟩ := HA.out
    exact ⟨_, _, _, _, _, twin_of a1 a2 a3 a4 a5 hpl hn0 hrw hf1⟩
  clear hpl hn0 hf1 HB2 hrw HA HR2
  go_upto_region 3 with fail
  generalize W3.alloc (.cells #[.bool no2, .slice so2 sn2 sc2, sV [], sV [], zV (-1), .bool false] 30) = W4 at *
  generalize W3.heap.size = m2 at *
  obtain ⟨Z1, Z2, F1, F2, B, hT0⟩ := HT.out
  have HT0 := show Hid _ from hT0
  have HAW := show Hid _ from awake_any W4 (HM.out W4 hT0.fr)
  clear HT hT0
  go_wp2_with fail
  refine Calls.mono HAW.out ?_
  rintro e W5 ⟨rfl, hf5⟩
  have HT1 : Hid (Twin T1 T2 Z1 Z2 B w W5 m1 m2 p1 p2 so1 so2 sn1 sc1 sn2 sc2 no1 no2 (psF L 0) [] [] [] [] (-1) (-1) false false F1 F2) := HT0.out.fresh hf5
  clear HT0 hf5 HAW
  go_wp2
  go_loopw [9, 39] (fun okv iv wr => ∃ (i : Nat) (all1 out1 all2 out2 : List UInt8) (met1 met2 : Int) (en1 en2 : Bool) (F1' F2' : Nat → Prop), i ≤ n ∧ iv = zV i ∧ okv = .bool true ∧ Hid (Twin T1 T2 Z1 Z2 B w wr m1 m2 p1 p2 so1 so2 sn1 sc1 sn2 sc2 no1 no2 (psF L i) all1 out1 all2 out2 met1 met2 en1 en2 F1' F2')) (fun _ iv _ => n - (RowKit.intOf iv).toNat)
  case atStart => exact ⟨0, [], [], [], [], -1, -1, false, false, F1, F2, Nat.zero_le _, rfl, rfl, HT1.out⟩
  case round =>
    obtain ⟨i, all1, out1, all2, out2, met1, met2, en1, en2, F1', F2', hi, rfl, rfl, HS⟩ := hrel
    clear HT1
    by_cases hlt : i < n
    · have hlt' : (i : Int) < (n : Int) := by omega
      obtain ⟨ao', cap', hv', _, _, _, hcell⟩ := HL.out wr HS.out.fr
      injection hv' with e1 e2 e3
      subst e1 e3
      obtain ⟨bb, off, rfl, _, hcc⟩ := hcell (by rw [HN.out]; omega)
      obtain ⟨c0, c1⟩ := hcc i (by rw [HN.out]; exact hlt)
      have HKI : Hid (I64 (gO L i).k) := HI.out i hlt
      have HPN : Hid (psF L (i + 1) = psF L i + (gO L i).p.length) := rfl
      have HBD : Hid (psF L (i + 1) ≤ 1048576) := Nat.le_trans (psF_le (by omega)) HPS.out
      have hfa : Fresh wr (wr.alloc (.cells #[zV (gO L i).k, sV (gO L i).p] 34)) := (Kept.refl _ wr).alloc _
      have HSa := show Hid _ from HS.out.fresh hfa
      have HWB := show Hid _ from heap_alloc_new wr (.cells #[zV (gO L i).k, sV (gO L i).p] 34)
      clear hcc hcell e2 hfa
      generalize (gO L i).k = kk at *
      generalize (gO L i).p = pp at *
      go_upto_region 8 with fail
      clear c0 c1
      generalize wr.alloc (.cells #[zV kk, sV pp] 34) = X0 at *
      generalize wr.heap.size = ob at *
      have o0 : X0.cell? ⟨ob, 0, none⟩ = some (zV kk) := by rw [Lib.cell_of_heap HWB.out]; rfl
      have o1 : X0.cell? ⟨ob, 1, none⟩ = some (sV pp) := by rw [Lib.cell_of_heap HWB.out]; rfl
      clear HWB HS
      by_cases hev : (i : Int).tmod 2 = 0
      · obtain ⟨m0, m1', m2', m3, m4, m5, _⟩ := six_cells HSa.out.a.bx
        have HST := show Hid _ from step_any T1 F1' X0 p1 so1 sn1 sc1 no1 en1 all1 out1 pp met1 kk HSa.out.a.pl HSa.out.a.lo HKI.out (by have := HSa.out.a.le; have := HPN.out; have := HBD.out; omega) (HM.out X0 HSa.out.fr)
        have HLE : Hid (all1.length + pp.length ≤ psF L (i + 1)) := by have := HSa.out.a.le; have := HPN.out; show _ ≤ _; omega
        have HLE2 : Hid (psF L i ≤ psF L (i + 1)) := psF_le (by omega)
        clear HPN HBD HKI
        go_wp2_with fail
        refine Calls.mono HST.out ?_
        rintro e X ⟨all', out', met', en', F'', rfl, hpl', hmv', hlen'⟩
        have hbx' := hmv'.1.at HSa.out.a.bx HSa.out.a.nF
        obtain ⟨z0, z1, z2, z3, z4, z5, zf⟩ := six_cells hbx'
        have HNX : Hid (∀ Y, Y.heap[m1]? = some (.cells #[.bool no1, .slice so1 sn1 sc1, sV all', sV out', zV met', .bool en'] 30 (0, 0)) → Kept (fun q => q = m1) X Y → Twin T1 T2 Z1 Z2 B w Y m1 m2 p1 p2 so1 so2 sn1 sc1 sn2 sc2 no1 no2 (psF L (i + 1)) all' out' all2 out2 met' met2 en' en2 (fun q => F'' q ∧ q < X.heap.size) F2') := fun Y hb hk => HSa.out.next hpl' hmv' (Nat.le_trans hlen' HLE.out) HLE2.out hb hk
        have HBX := show Hid _ from hbx'
        clear hpl' hmv' hlen' hbx' HSa HST HLE HLE2 m0 m1' m2' m3 m4 m5 o0 o1
        go_upto_region 11 with fail
        refine six_name (G := fun Y => Code.wp _ _ _ _ Y) HBX.out ?_
        intro Y hbY hkY
        have HSn := show Hid _ from HNX.out Y hbY hkY
        clear HNX HBX hbY hkY z0 z1 z2 z3 z4 z5 zf
        go_wp2
        go_roundw
        case rel => exact ⟨i + 1, all', out', all2, out2, met', met2, en', en2, _, F2', hlt, by go_num, rfl, HSn.out⟩
        case measure => simp [RowKit.intOf]; omega
      · have hod : (i : Int).tmod 2 = 1 := by
          rw [Int.tmod_eq_emod_of_nonneg (by omega)] at hev ⊢
          omega
        clear hev
        have HSb := show Hid _ from HSa.out.swap
        obtain ⟨m0, m1', m2', m3, m4, m5, _⟩ := six_cells HSb.out.a.bx
        have HST := show Hid _ from step_any T2 F2' X0 p2 so2 sn2 sc2 no2 en2 all2 out2 pp met2 kk HSb.out.a.pl HSb.out.a.lo HKI.out (by have := HSb.out.a.le; have := HPN.out; have := HBD.out; omega) (HM.out X0 HSb.out.fr)
        have HLE : Hid (all2.length + pp.length ≤ psF L (i + 1)) := by have := HSb.out.a.le; have := HPN.out; show _ ≤ _; omega
        have HLE2 : Hid (psF L i ≤ psF L (i + 1)) := psF_le (by omega)
        clear HPN HBD HKI HSa
        go_wp2_with fail
        refine Calls.mono HST.out ?_
        rintro e X ⟨all', out', met', en', F'', rfl, hpl', hmv', hlen'⟩
        have hbx' := hmv'.1.at HSb.out.a.bx HSb.out.a.nF
        obtain ⟨z0, z1, z2, z3, z4, z5, zf⟩ := six_cells hbx'
        have HNX : Hid (∀ Y, Y.heap[m2]? = some (.cells #[.bool no2, .slice so2 sn2 sc2, sV all', sV out', zV met', .bool en'] 30 (0, 0)) → Kept (fun q => q = m2) X Y → Twin T1 T2 Z1 Z2 B w Y m1 m2 p1 p2 so1 so2 sn1 sc1 sn2 sc2 no1 no2 (psF L (i + 1)) all1 out1 all' out' met1 met' en1 en' F1' (fun q => F'' q ∧ q < X.heap.size)) := fun Y hb hk => (HSb.out.next hpl' hmv' (Nat.le_trans hlen' HLE.out) HLE2.out hb hk).swap
        have HBX := show Hid _ from hbx'
        clear hpl' hmv' hlen' hbx' HSb HST HLE HLE2 m0 m1' m2' m3 m4 m5 o0 o1
        go_upto_region 11 with fail
        refine six_name (G := fun Y => Code.wp _ _ _ _ Y) HBX.out ?_
        intro Y hbY hkY
        have HSn := show Hid _ from HNX.out Y hbY hkY
        clear HNX HBX hbY hkY z0 z1 z2 z3 z4 z5 zf
        go_wp2
        go_roundw
        case rel => exact ⟨i + 1, all1, out1, all', out', met1, met', en1, en', F1', _, hlt, by go_num, rfl, HSn.out⟩
        case measure => simp [RowKit.intOf]; omega
    · obtain rfl : i = n := by omega
      have hlt' : ¬ ((i : Int) < (i : Int)) := by omega
      go_upto_region 14 with fail
      have u3 : ∀ d : Nw wr, d.w.cell? ⟨m1, 3, none⟩ = some (sV out1) := fun d => (six_cells (HS.out.fresh d.f).a.bx).2.2.2.1
      have v3 : ∀ d : Nw wr, d.w.cell? ⟨m2, 3, none⟩ = some (sV out2) := fun d => (six_cells (HS.out.fresh d.f).b.bx).2.2.2.1
      have KT1 : Hid (∀ d : Nw wr, Calls Tryd.prog 15 #[p1] d.w fun e w' => e = .returned (sV out1) ∧ Fresh d.w w') := fun d => ((HS.out.fresh d.f).a.pl.text).mono (fun e w' ⟨he, hw⟩ => ⟨he, by rw [hw]; exact Kept.refl _ _⟩)
      have KT2 : Hid (∀ d : Nw wr, Calls Tryd.prog 15 #[p2] d.w fun e w' => e = .returned (sV out2) ∧ Fresh d.w w') := fun d => ((HS.out.fresh d.f).b.pl.text).mono (fun e w' ⟨he, hw⟩ => ⟨he, by rw [hw]; exact Kept.refl _ _⟩)
      have HFW : Hid (∀ d : Nw wr, Fresh w d.w) := fun d => HS.out.fr.trans d.f (fun _ _ e => e)
      have hoo : (out1 == out1) = true := beq_self_eq_true _
      have hpp : (out2 == out2) = true := beq_self_eq_true _
      clear HS HL HI HM
      haveI : Nonempty (Nw wr) := nw_some wr
      refine wp_region_new (by kernel_rfl) (by kernel_rfl) ?_
      repeat (go_big_quiet_step (first | (with_reducible exact Calls.new_of (KT1.out _)) | (with_reducible exact Calls.new_of (KT2.out _))))
      refine wpQuiet_nil ?_
      intro _ hw'
      obtain ⟨dq, hw''⟩ := hw'
      subst hw''
      go_wp2
      go_ret
      exact ⟨by first | rfl | simp, HFW.out dq⟩

set_option maxRecDepth 100000 in
theorem contract (H : Type) (enc : TypeId × Value → H) (W : World) (base : Nat) (args : Array Value) (ds gs : List (DataW H)) (before : List MemPlace)
    (hval : ∀ (j : Nat) t v, Tryd.f5.params[j]? = some t → args[j]? = some v → Value.okWide Tryd.prog W .any base t v)
    (hW : DataW.Whole enc Tryd.prog Tryd.f5.params.toList Rows.streamTwoSpec.vars false W args.toList ds gs before) (hbk : Rows.uptoSmall H (ds ++ gs) = true)
    (hsz : (DataW.weightsEach Tryd.prog (Tryd.f5.params.toList ++ []) (ds ++ gs)).all (· ≤ reachBytes) = true) (hsh : W.ShapedOpen Tryd.prog) (hL : laidMetH Tryd.prog Rows.streamTwoRow.laid W) :
    Calls Tryd.prog 5 args W fun e W' => ∃ v, e = .returned v ∧ Rows.streamTwoSpec.post enc Tryd.prog Tryd.f5 false true false false W args v W' := by
  have hW' := hW
  obtain ⟨p, q, hA0, hV, rfl, hfz, hnd⟩ := hW
  have hA : DataW.TrodAll enc Tryd.prog W 0 (fun _ => true) true Tryd.f5.params.toList args.toList ds p := hA0
  rw [Tryd.params5] at hA hval hsz
  obtain ⟨rfl, rfl⟩ := trodVars_none hV
  obtain ⟨v0, v1, v2, d0, d1, d2, p0, p1, p2, rfl, rfl, rfl, h0, h1, h2⟩ := trodAll_three hA
  have hbd := bulk_le hbk
  simp only [List.append_nil, Rows.uptoBulkAll, Nat.add_zero] at hbd
  obtain ⟨T1, hT1⟩ := txr_of (hval 0 26 v0 rfl rfl) h0 (by omega)
  obtain ⟨T2, hT2⟩ := txr_of (hval 1 26 v1 rfl rfl) h1 (by omega)
  obtain ⟨L, hLo⟩ := ops_of (hval 2 27 v2 rfl rfl) h2 (by omega)
  refine (walk W v0 v1 v2 T1 T2 L hT1 hT2 hLo (tbm_of hL hsh)).mono fun e W' ⟨he, hk⟩ => ?_
  subst he
  exact ⟨_, rfl, post_law rfl (by kernel_rfl) (by kernel_rfl) hW' rfl hk⟩

set_option maxRecDepth 100000 in
theorem laid_met (os : Os) : laidMet Tryd.prog Rows.streamTwoUptoRow.laid ((layIn (World.holding Tryd.prog os ⟨#[], #[], []⟩)).forCall (fun _ _ => 0) ⟨#[], #[.slice none 0 0, .slice none 0 0, .slice none 0 0], []⟩).memory :=
  laidMet_of_run' 8 (by kernel_rfl) (by kernel_rfl)
set_option maxRecDepth 100000 in
theorem reads (os : Os) {H : Type} (enc : TypeId × Value → H) : ∃ places, DataW.whole enc Tryd.prog ((layIn (World.holding Tryd.prog os ⟨#[], #[], []⟩)).forCall (fun _ _ => 0) ⟨#[], #[.slice none 0 0, .slice none 0 0, .slice none 0 0], []⟩).memory Tryd.f5.params.toList Rows.streamTwoSpec.vars false (#[.slice none 0 0, .slice none 0 0, .slice none 0 0] : Array Value).toList 8 = some ([.nil, .nil, .nil], [], places) :=
  ⟨[], by kernel_rfl⟩

set_option maxRecDepth 100000 in
theorem lifted (os : Os) (started : os.Started) (H : Type) (enc : TypeId × Value → H) (F : Stop.Interp) :
    ReturnsInHanded {} Tryd.checked os 5 .any ((Rows.OpenSpec.upto Rows.streamTwoSpec).preRow enc Tryd.prog Tryd.f5 Rows.streamTwoUptoRow.domain false Rows.streamTwoUptoRow.laid) (((Rows.OpenSpec.upto Rows.streamTwoSpec).at F).post enc Tryd.prog Tryd.f5 false true false false) := by
  obtain ⟨places, hx⟩ := reads os enc
  refine returnsInHanded_of_row (C := Tryd.checked) (s := Rows.OpenSpec.upto Rows.streamTwoSpec) Tryd.own started (by kernel_rfl) Tryd.func5
    (witness_row_at (enc := enc) (C := Tryd.checked) false (layIn (World.holding Tryd.prog os ⟨#[], #[], []⟩)) #[.slice none 0 0, .slice none 0 0, .slice none 0 0] rfl (by kernel_rfl) (by kernel_rfl) (by kernel_rfl)
      (OpenSpec.preRow_of_cond 8 hx (by kernel_rfl) (fun k hk => by cases hk; kernel_rfl) (by kernel_rfl) (laid_met os))) ?_
  intro W base args ds gs before hval hW _ hc hsz hL hsh _
  exact contract H enc W base args ds gs before hval hW (hc _ rfl) hsz hsh hL

theorem said : Rows.StreamTwoUptoSaid :=
  OpenClaim.holds_of_cond 5 Tryd.f5 rfl rfl rfl rfl rfl rfl rfl ⟨rfl, rfl, rfl, rfl, rfl⟩ rfl rfl rfl rfl rfl (by kernel_rfl) Tryd.func5 (by kernel_rfl)
    (of_decide_eq_true (by kernel_rfl)) (by unfold Func.isWrapper; first | (rw [if_pos (by decide +kernel)]; kernel_rfl) | (rw [if_neg (by decide +kernel)]; exact ⟨rfl, rfl⟩))
    (fun os started H enc _ F => by rw [OpenClaim.pre_eq_preRow]; exact lifted os started H enc F)

theorem plain (f : FuncId) (fn : Func) (hf : Tryd.pinned.checked.prog.funcNamed Rows.streamTwoUptoRow.func = some f) (hfn : Tryd.pinned.checked.prog.funcs[f]? = some fn) :
    false = Tryd.pinned.checked.prog.looks [] ∧ ∀ (j : Nat) t, fn.params[j]? = some t → Tryd.pinned.checked.prog.wantsStandIn t = false := by
  obtain rfl : f = 5 := Option.some.inj ((show Tryd.prog.funcNamed Rows.streamTwoUptoRow.func = some 5 by kernel_rfl).symm.trans hf) |>.symm
  obtain rfl : fn = Tryd.f5 := (Option.some.inj (Tryd.func5.symm.trans hfn)).symm
  refine ⟨by kernel_rfl, fun j t ht => ?_⟩
  have hall : (Tryd.f5.params.toList.all fun u => !Tryd.prog.wantsStandIn u) = true := by kernel_rfl
  exact (show Tryd.prog.wantsStandIn t = false by simpa using List.all_eq_true.1 hall t (Array.mem_toList_iff.2 (Array.mem_of_getElem? ht)))

theorem card : Rows.StreamTwoUptoCardSaid :=
  Claim7.holds_tied_plain_at .later [] _ _ _ _ said (fun _ h => by cases h) (by kernel_rfl) (fun _ h => by cases h) streamTwoUpto_row_tie rfl ⟨rfl, rfl⟩ (by kernel_rfl) rfl plain (by kernel_rfl)

end Go.Proofs.YtomeoklhjdgaoaaDoor.STwo
namespace Go.Proofs.YtomeoklhjdgaoaaDoor
theorem streamTwo_upto_card : Rows.StreamTwoUptoCardSaid := STwo.card
end Go.Proofs.YtomeoklhjdgaoaaDoor
