/-
  For every two lists of numbers of 32 bits the statement NatSums answers true: Add and Sub are the document's, and what they are asked of stays; its card, tied to the program's text.
-/
import Derived.Test.YtdmjfmipalifpaaGreatDoorSud
import Derived.Test.YtdmjfmipalifpaaGreatDoorSub
import Derived.Test.YtdmjfmipalifpaaGreatDoorSuc
import Derived.Test.YtdmjfmipalifpaaGreatDoorLke
import Derived.Test.YtdmjfmipalifpaaGreatDoorRga
import Derived.Deep.DeepWitnessRowRef
namespace Go.Proofs.YtdmjfmipalifpaaGreatDoor.LSums
open Go.ChangeShapes Go.WideShapes Go.ChangeAt Go.RowKit

set_option maxHeartbeats 2000000 in
set_option maxRecDepth 100000 in
theorem walk (av bv : Value) (A B : List Nat) (w : World) (hT : Pw w) (ha : Dw .u32 4294967296 (fun _ => True) w av A) (hla : A.length ≤ 1048576) (hb : Dw .u32 4294967296 (fun _ => True) w bv B) (hlb : B.length ≤ 1048576) :
    Calls Tryz.prog 5 #[av, bv] w fun e w' => e = .returned (.bool true) ∧ Fresh w w' := by
  have haw := fun W (hF : Fresh w W) => awake_any W (hT.fresh hF)
  have hga := given_any av A w ha hla
  have hgb := fun W (hF : Fresh w W) => given_any bv B W (hb.fresh hF) hlb
  have hbM := bl_words ha.dg
  have hbN := bl_words hb.dg
  obtain ⟨aa, ac, rfl⟩ := ha.shape
  obtain ⟨ba, bc, rfl⟩ := hb.shape
  generalize val 4294967296 A = M at *
  generalize val 4294967296 B = N at *
  have HAW : Hid (Unit → _) := fun (_ : Unit) => haw
  have HGA : Hid (Unit → _) := fun (_ : Unit) => hga
  have HGB : Hid (Unit → _) := fun (_ : Unit) => hgb
  have HPW := show Hid _ from hT
  clear haw hga hgb ha hb hT
  generalize A.length = na at *
  generalize B.length = nb at *
  go_enter Tryz.func5, Tryz.ntmps5
  go_wp2_with fail
  refine (HGA.out ()).mono ?_
  rintro e w1 ⟨mv, xv, rfl, hR1, hN1, hF1⟩
  obtain ⟨ma, mn, mc, rfl⟩ := hR1.shape
  obtain ⟨xa, xn, xc, rfl⟩ := hN1.shape
  have HF1 := show Hid _ from hF1
  have HR1 : Hid (Unit → _) := fun (_ : Unit) => hR1
  have HN1 : Hid (Unit → _) := fun (_ : Unit) => hN1
  have HG1 : Hid (Fresh w (w1.alloc (.cells #[.slice xa xn xc] 26))) := hF1.alloc _
  clear hF1 hR1 hN1 HGA
  go_wp2_with fail
  refine (HGB.out () _ HG1.out).mono ?_
  rintro e w2 ⟨nv, yv, rfl, hR2, hN2, hF2⟩
  obtain ⟨na', nn, nc, rfl⟩ := hR2.shape
  obtain ⟨ya, yn, yc, rfl⟩ := hN2.shape
  have hst := Two.made HPW.out HF1.out (HR1.out ()) (HN1.out ()) hF2 hR2 hN2
  have HST := show Hid _ from hst
  have hsz1 : w1.heap.size < (w1.alloc (.cells #[.slice xa xn xc] 26)).heap.size := by simp
  have hsz2 : w1.heap.size < w2.heap.size := Nat.lt_of_lt_of_le hsz1 hF2.size
  have hsz3 : w.heap.size ≤ w1.heap.size := HF1.out.size
  have hsz4 : w2.heap.size < (w2.alloc (.cells #[.slice ya yn yc] 26)).heap.size := by simp
  have HSZ : Hid (w.heap.size ≤ w1.heap.size ∧ w1.heap.size < w2.heap.size ∧ w2.heap.size < (w2.alloc (.cells #[.slice ya yn yc] 26)).heap.size) := ⟨hsz3, hsz2, hsz4⟩
  clear hst hR2 hN2 hF2 HR1 HN1 HG1 HF1 HGB hsz1 hsz2 hsz3 hsz4
  go_wp2_with fail
  refine (HAW.out () _ HST.out.fr).mono ?_
  rintro e w3 ⟨rfl, hF3⟩
  have HS3 := show Hid _ from HST.out.next hF3
  have c3 := HS3.out.cx
  have d3 := HS3.out.cy
  have HSZ3 : Hid (w.heap.size ≤ w1.heap.size ∧ w1.heap.size < w2.heap.size ∧ w2.heap.size < w3.heap.size) := ⟨HSZ.out.1, HSZ.out.2.1, Nat.lt_of_lt_of_le HSZ.out.2.2 hF3.size⟩
  clear hF3 HST HAW HSZ
  generalize w1.heap.size = bx at *
  generalize w2.heap.size = by' at *
  by_cases hfm : fitE M = 0
  · by_cases hfn : fitE N = 0
    · have hM : ¬ 65536 < bl M := fun e => by rw [(fit_out e).2] at hfm; exact absurd hfm (by decide)
      have hN : ¬ 65536 < bl N := fun e => by rw [(fit_out e).2] at hfn; exact absurd hfn (by decide)
      have HNX : Hid (∀ W, Two w bx by' (.slice xa xn xc) (.slice ya yn yc) (.slice ma mn mc) (.slice na' nn nc) M N W → Nm W (.slice xa xn xc) M ∧ Nm W (.slice ya yn yc) N) := fun W h => by
        have h1 := h.nx
        have h2 := h.ny
        rw [(fit_in (Nat.le_of_not_lt hM)).1] at h1
        rw [(fit_in (Nat.le_of_not_lt hN)).1] at h2
        exact ⟨h1, h2⟩
      rw [hfm, hfn]
      have HB : Hid (bl M ≤ 65536 ∧ bl N ≤ 65536) := ⟨by omega, by omega⟩
      have HAd : Hid (Unit → _) := fun (_ : Unit) => natAdd_any _ _ M N w3 (HNX.out _ HS3.out).1 (HNX.out _ HS3.out).2 (by have := HB.out; omega)
      clear hM hN hfm hfn hbM hbN
      go_wp2_with fail
      refine (HAd.out ()).mono ?_
      rintro e w4 ⟨sv, rfl, hN4, hF4⟩
      obtain ⟨sa, sn, sc, rfl⟩ := hN4.shape
      have hA4 : Fresh w4 (w4.alloc (.cells #[.slice sa sn sc] 26)) := (Kept.refl _ _).alloc _
      have HS4 := show Hid _ from HS3.out.next (hF4.trans hA4 (fun _ _ e => e))
      have HN4 : Hid (Unit → Nm (w4.alloc (.cells #[.slice sa sn sc] 26)) (.slice sa sn sc) (fitN (M + N))) := fun _ => hN4.fresh hA4
      have HBS : Hid ((w4.alloc (.cells #[.slice sa sn sc] 26)).heap[w4.heap.size]? = some (.cells #[.slice sa sn sc] 26 (0, 0))) := heap_alloc_new w4 _
      have HSZ4 : Hid (w.heap.size ≤ bx ∧ bx < by' ∧ by' < w4.heap.size) := ⟨HSZ3.out.1, HSZ3.out.2.1, Nat.lt_of_lt_of_le HSZ3.out.2.2 hF4.size⟩
      have HRA : Hid (Unit → _) := fun (_ : Unit) => refAdd_any _ _ M N _ HS4.out.rm HS4.out.rn (by have := HB.out; omega)
      clear HAd hN4 hF4 hA4 HS3 c3 d3 HSZ3
      go_wp2_with fail
      refine (HRA.out ()).mono ?_
      rintro e w5 ⟨tv, rfl, hR5, hF5⟩
      have HS5 := show Hid _ from HS4.out.next hF5
      have HN5 : Hid (Unit → _) := fun (_ : Unit) => (HN4.out ()).fresh hF5
      have HB5 := show Hid _ from hF5.at HBS.out (fun e => e)
      have HFi : Hid (Unit → _) := fun (_ : Unit) => fit_any _ _ w5 hR5
      obtain ⟨ta, tn, tc, rfl⟩ := hR5.shape
      clear HRA hR5 hF5 HS4 HN4 HBS
      generalize w4.heap.size = bs at *
      go_wp2_with fail
      refine (HFi.out ()).mono ?_
      rintro e w6 ⟨fv, rfl, hR6, hw6⟩
      subst hw6
      obtain ⟨fa, fn, fc, rfl⟩ := hR6.shape
      have c6 : w6.cell? ⟨bs, 0, none⟩ = some (.slice sa sn sc) := by rw [Lib.cell_of_heap HB5.out]; rfl
      have HIs : Hid (Unit → _) := fun (_ : Unit) => is_any _ _ _ (fitE (M + N)) w6 (HN5.out ()) hR6 (bl_fit _) HS5.out.pw
      clear HFi hR6 HN5
      obtain ⟨FE, hFE⟩ : ∃ x, x = fitE (M + N) := ⟨_, rfl⟩
      rw [← hFE] at HIs ⊢
      clear hFE
      go_wp2_with fail
      refine (HIs.out ()).mono ?_
      rintro e w7 ⟨rfl, hF7⟩
      have HS7 := show Hid _ from HS5.out.next hF7
      have HB7 := show Hid _ from hF7.at HB5.out (fun e => e)
      have c7 := HS7.out.cx
      have d7 := HS7.out.cy
      have HSb : Hid (Unit → _) := fun (_ : Unit) => natSub_any _ _ M N w7 (HNX.out _ HS7.out).1 (HNX.out _ HS7.out).2 HB.out.1
      clear HIs hF7 HS5 HB5 c6
      go_wp2_with fail
      refine (HSb.out ()).mono ?_
      rintro e w8 ⟨zv, rfl, hN8, hF8⟩
      obtain ⟨za, zn, zc, rfl⟩ := hN8.shape
      have hb8 := hF8.at HB7.out (fun e => e)
      have c8 : w8.cell? ⟨bs, 0, none⟩ = some (.slice sa sn sc) := by rw [Lib.cell_of_heap hb8]; rfl
      have f8 : w8.frozen? ⟨bs, 0, none⟩ = false := Lib.frozen_of_heap hb8 0
      obtain ⟨hS9, hb9⟩ := Two.set (HS7.out.next hF8) HPW.out hb8 (by have := HSZ4.out; omega) (by have := HSZ4.out; omega) (by have := HSZ4.out; omega) (.slice za zn zc)
      have HS9 := show Hid _ from hS9
      have HB9 := show Hid _ from hb9
      have HN9 : Hid (Unit → Nm (w8.setCell ⟨bs, 0, none⟩ (.slice za zn zc)) (.slice za zn zc) (sbN M N)) := fun _ => nm_set hN8 hb8 (by decide) _ _
      have HCo : Hid (Unit → _) := fun (_ : Unit) => refCompare_any _ _ M N _ HS9.out.rm HS9.out.rn
      have HTX : Hid (∀ W, Two w bx by' (.slice xa xn xc) (.slice ya yn yc) (.slice ma mn mc) (.slice na' nn nc) M N W → bl M ≤ 1099511627776 ∧ bl N ≤ 1099511627776) := fun _ _ => ⟨by have := HB.out; omega, by have := HB.out; omega⟩
      clear HSb hN8 hF8 hb8 hS9 hb9 HS7 HB7 c7 d7
      by_cases hlt : M < N
      · rw [cmpN_lt hlt] at HCo
        obtain ⟨e1, e2⟩ := sb_out hlt
        rw [e2]
        rw [e1] at HN9
        clear e1 e2
        go_wp2_with fail
        refine (HCo.out ()).mono ?_
        rintro e w10 ⟨rfl, hF10⟩
        have HS10 := show Hid _ from HS9.out.next hF10
        have HB10 := show Hid _ from hF10.at HB9.out (fun e => e)
        have c10 : w10.cell? ⟨bs, 0, none⟩ = some (.slice za zn zc) := by rw [Lib.cell_of_heap HB10.out]; rfl
        have HIs : Hid (Unit → _) := fun (_ : Unit) => is_any _ _ 0 40 w10 ((HN9.out ()).fresh hF10) (rn_nil _) (by decide) HS10.out.pw
        clear HCo hF10 HS9 HB9 HN9 c8 f8
        go_wp2_with fail
        refine (HIs.out ()).mono ?_
        rintro e w11 ⟨rfl, hF11⟩
        have HS11 := show Hid _ from HS10.out.next hF11
        have c11 := HS11.out.cx
        have HT1 : Hid (Unit → _) := fun (_ : Unit) => natText_any _ M w11 (HNX.out _ HS11.out).1 (HTX.out _ HS11.out).1 HS11.out.pw
        clear HIs hF11 HS10 HB10 c10
        go_wp2_with fail
        refine (HT1.out ()).mono ?_
        rintro e w12 ⟨rfl, hF12⟩
        have HS12 := show Hid _ from HS11.out.next hF12
        have HT2 : Hid (Unit → _) := fun (_ : Unit) => refText_any _ M w12 HS12.out.rm (HTX.out _ HS12.out).1
        clear HT1 hF12 HS11 c11
        go_wp2_with fail
        refine (HT2.out ()).mono ?_
        rintro e w13 ⟨rfl, hF13⟩
        have HS13 := show Hid _ from HS12.out.next hF13
        have d13 := HS13.out.cy
        have HT3 : Hid (Unit → _) := fun (_ : Unit) => natText_any _ N w13 (HNX.out _ HS13.out).2 (HTX.out _ HS13.out).2 HS13.out.pw
        clear HT2 hF13 HS12
        go_wp2_with fail
        refine (HT3.out ()).mono ?_
        rintro e w14 ⟨rfl, hF14⟩
        have HS14 := show Hid _ from HS13.out.next hF14
        have HT4 : Hid (Unit → _) := fun (_ : Unit) => refText_any _ N w14 HS14.out.rn (HTX.out _ HS14.out).2
        clear HT3 hF14 HS13 d13
        go_wp2_with fail
        refine (HT4.out ()).mono ?_
        rintro e w15 ⟨rfl, hF15⟩
        have HFr := show Hid _ from (HS14.out.next hF15).fr
        clear HT4 hF15 HS14
        go_wp2
        go_ret
        exact ⟨by simp, HFr.out⟩
      · have hcn : (0 : Int) ≤ cmpN M N := by
          unfold cmpN
          rw [if_neg hlt]
          split <;> omega
        obtain ⟨e1, e2⟩ := sb_in hlt
        rw [e2]
        rw [e1] at HN9
        have HLE : Hid (N ≤ M ∧ bl (M - N) ≤ 65536) := ⟨by omega, Nat.le_trans (bl_mono (Nat.sub_le _ _)) HB.out.1⟩
        generalize cmpN M N = CC at *
        clear e1 e2 hlt
        go_wp2_with fail
        refine (HCo.out ()).mono ?_
        rintro e w10 ⟨rfl, hF10⟩
        have HS10 := show Hid _ from HS9.out.next hF10
        have HB10 := show Hid _ from hF10.at HB9.out (fun e => e)
        have HN10 : Hid (Unit → _) := fun (_ : Unit) => (HN9.out ()).fresh hF10
        have HRS : Hid (Unit → _) := fun (_ : Unit) => refSub_any _ _ M N w10 HS10.out.rm HS10.out.rn (HTX.out _ HS10.out).1 HLE.out.1
        clear HCo hF10 HS9 HB9 HN9 c8 f8
        go_wp2_with fail
        refine (HRS.out ()).mono ?_
        rintro e w10' ⟨uv, rfl, hR10, hF10'⟩
        obtain ⟨ua, un, uc, rfl⟩ := hR10.shape
        have HS10' := show Hid _ from HS10.out.next hF10'
        have HB10' := show Hid _ from hF10'.at HB10.out (fun e => e)
        have c10 : w10'.cell? ⟨bs, 0, none⟩ = some (.slice za zn zc) := by rw [Lib.cell_of_heap HB10'.out]; rfl
        have HIs : Hid (Unit → _) := fun (_ : Unit) => is_any _ _ (M - N) 0 w10' ((HN10.out ()).fresh hF10') hR10 HLE.out.2 HS10'.out.pw
        clear HRS hF10' HS10 HB10 HN10 hR10
        go_wp2_with fail
        refine (HIs.out ()).mono ?_
        rintro e w11 ⟨rfl, hF11⟩
        have HS11 := show Hid _ from HS10'.out.next hF11
        have c11 := HS11.out.cx
        have HT1 : Hid (Unit → _) := fun (_ : Unit) => natText_any _ M w11 (HNX.out _ HS11.out).1 (HTX.out _ HS11.out).1 HS11.out.pw
        clear HIs hF11 HS10' HB10' c10
        go_wp2_with fail
        refine (HT1.out ()).mono ?_
        rintro e w12 ⟨rfl, hF12⟩
        have HS12 := show Hid _ from HS11.out.next hF12
        have HT2 : Hid (Unit → _) := fun (_ : Unit) => refText_any _ M w12 HS12.out.rm (HTX.out _ HS12.out).1
        clear HT1 hF12 HS11 c11
        go_wp2_with fail
        refine (HT2.out ()).mono ?_
        rintro e w13 ⟨rfl, hF13⟩
        have HS13 := show Hid _ from HS12.out.next hF13
        have d13 := HS13.out.cy
        have HT3 : Hid (Unit → _) := fun (_ : Unit) => natText_any _ N w13 (HNX.out _ HS13.out).2 (HTX.out _ HS13.out).2 HS13.out.pw
        clear HT2 hF13 HS12
        go_wp2_with fail
        refine (HT3.out ()).mono ?_
        rintro e w14 ⟨rfl, hF14⟩
        have HS14 := show Hid _ from HS13.out.next hF14
        have HT4 : Hid (Unit → _) := fun (_ : Unit) => refText_any _ N w14 HS14.out.rn (HTX.out _ HS14.out).2
        clear HT3 hF14 HS13 d13
        go_wp2_with fail
        refine (HT4.out ()).mono ?_
        rintro e w15 ⟨rfl, hF15⟩
        have HFr := show Hid _ from (HS14.out.next hF15).fr
        clear HT4 hF15 HS14
        go_wp2
        go_ret
        exact ⟨by simp, HFr.out⟩
    · have hn' : decide (fitE N = 0) = false := decide_eq_false hfn
      rw [hfm]
      have HFr := show Hid _ from HS3.out.fr
      clear HS3 hbM hbN hfm c3 d3
      go_wp2
      go_ret
      exact ⟨rfl, HFr.out⟩
  · have hn' : decide (fitE M = 0) = false := decide_eq_false hfm
    have HFr := show Hid _ from HS3.out.fr
    clear HS3 hbM hbN c3 d3
    go_wp2
    go_ret
    exact ⟨rfl, HFr.out⟩

set_option maxRecDepth 100000 in
theorem contract (H : Type) (enc : TypeId × Value → H) (W : World) (base : Nat) (args : Array Value) (ds gs : List (DataW H)) (before : List MemPlace)
    (hval : ∀ (j : Nat) t v, Tryz.f5.params[j]? = some t → args[j]? = some v → Value.okWide Tryz.prog W .any base t v)
    (hW : DataW.Whole enc Tryz.prog Tryz.f5.params.toList Rows.natSumsSpec.vars false W args.toList ds gs before) (hbk : Rows.uptoSmall H (ds ++ gs) = true)
    (hsz : (DataW.weightsEach Tryz.prog (Tryz.f5.params.toList ++ []) (ds ++ gs)).all (· ≤ reachBytes) = true) (hL : laidMetH Tryz.prog Rows.natSumsRow.laid W) :
    Calls Tryz.prog 5 args W fun e W' => ∃ v, e = .returned v ∧ Rows.natSumsSpec.post enc Tryz.prog Tryz.f5 false true false false W args v W' := by
  have hW' := hW
  obtain ⟨p, q, hA0, hV, rfl, hfz, hnd⟩ := hW
  have hA : DataW.TrodAll enc Tryz.prog W 0 (fun _ => true) true Tryz.f5.params.toList args.toList ds p := hA0
  rw [Tryz.params5] at hA hval hsz
  obtain ⟨rfl, rfl⟩ := trodVars_none hV
  obtain ⟨v0, v1, d0, d1, p0, p1, rfl, rfl, rfl, h0, h1⟩ := trodAll_two hA
  obtain ⟨ao, ln, cp, rfl⟩ := okWide_slice Tryz.underlying37 (hval 0 37 v0 rfl rfl)
  obtain ⟨bo, lm, cq, rfl⟩ := okWide_slice Tryz.underlying37 (hval 1 37 v1 rfl rfl)
  have hbd := bulk_le hbk
  simp only [List.append_nil, Rows.uptoBulkAll] at hbd
  obtain ⟨f0, hf0⟩ := h0
  obtain ⟨f1, hf1⟩ := h1
  obtain ⟨A, hA1, hA2⟩ := dw_of (x := (d0, p0)) hf0 (by show Rows.uptoBulk d0 ≤ _; omega)
  obtain ⟨B, hB1, hB2⟩ := dw_of (x := (d1, p1)) hf1 (by show Rows.uptoBulk d1 ≤ _; omega)
  refine (walk _ _ A B W (pw_of_laid hL (by simp [Rows.natSumsRow])) hA1 hA2 hB1 hB2).mono fun e W' ⟨he, hk⟩ => ?_
  subst he
  exact ⟨_, rfl, post_law rfl (by kernel_rfl) (by kernel_rfl) hW' rfl hk⟩

set_option maxRecDepth 100000 in
theorem laid_met (os : Os) : laidMet Tryz.prog Rows.natSumsUptoRow.laid ((layIn (World.holding Tryz.prog os ⟨#[], #[], []⟩)).forCall (fun _ _ => 0) ⟨#[], #[.slice none 0 0, .slice none 0 0], []⟩).memory :=
  laidMet_of_run' 8 (by kernel_rfl) (by kernel_rfl)
set_option maxRecDepth 100000 in
theorem reads (os : Os) {H : Type} (enc : TypeId × Value → H) : ∃ places, DataW.whole enc Tryz.prog ((layIn (World.holding Tryz.prog os ⟨#[], #[], []⟩)).forCall (fun _ _ => 0) ⟨#[], #[.slice none 0 0, .slice none 0 0], []⟩).memory Tryz.f5.params.toList Rows.natSumsSpec.vars false (#[.slice none 0 0, .slice none 0 0] : Array Value).toList 8 = some ([.nil, .nil], [], places) :=
  ⟨[], by kernel_rfl⟩

set_option maxRecDepth 100000 in
theorem lifted (os : Os) (started : os.Started) (H : Type) (enc : TypeId × Value → H) (F : Stop.Interp) :
    ReturnsInHanded {} Tryz.checked os 5 .any ((Rows.OpenSpec.upto Rows.natSumsSpec).preRow enc Tryz.prog Tryz.f5 Rows.natSumsUptoRow.domain false Rows.natSumsUptoRow.laid) (((Rows.OpenSpec.upto Rows.natSumsSpec).at F).post enc Tryz.prog Tryz.f5 false true false false) := by
  obtain ⟨places, hx⟩ := reads os enc
  refine returnsInHanded_of_row (C := Tryz.checked) (s := Rows.OpenSpec.upto Rows.natSumsSpec) Tryz.own started (by kernel_rfl) Tryz.func5
    (witness_row_atRef (enc := enc) (C := Tryz.checked) false (layIn (World.holding Tryz.prog os ⟨#[], #[], []⟩)) #[.slice none 0 0, .slice none 0 0] rfl (by kernel_rfl) (by kernel_rfl) (by kernel_rfl)
      (OpenSpec.preRow_of_cond 8 hx (by kernel_rfl) (fun k hk => by cases hk; kernel_rfl) (by kernel_rfl) (laid_met os))) ?_
  intro W base args ds gs before hval hW _ hc hsz hL _ _
  exact contract H enc W base args ds gs before hval hW (hc _ rfl) hsz hL

theorem said : Rows.NatSumsUptoSaid :=
  OpenClaim.holds_of_cond 5 Tryz.f5 rfl rfl rfl rfl rfl rfl rfl ⟨rfl, rfl, rfl, rfl, rfl⟩ rfl rfl rfl rfl rfl (by kernel_rfl) Tryz.func5 (by kernel_rfl)
    (of_decide_eq_true (by kernel_rfl)) (by unfold Func.isWrapper; first | (rw [if_pos (by decide +kernel)]; kernel_rfl) | (rw [if_neg (by decide +kernel)]; exact ⟨rfl, rfl⟩))
    (fun os started H enc _ F => by rw [OpenClaim.pre_eq_preRow]; exact lifted os started H enc F)

theorem plain (f : FuncId) (fn : Func) (hf : Tryz.pinned.checked.prog.funcNamed Rows.natSumsUptoRow.func = some f) (hfn : Tryz.pinned.checked.prog.funcs[f]? = some fn) :
    true = Tryz.pinned.checked.prog.looks [] ∧ ∀ (j : Nat) t, fn.params[j]? = some t → Tryz.pinned.checked.prog.wantsStandIn t = false := by
  obtain rfl : f = 5 := Option.some.inj ((show Tryz.prog.funcNamed Rows.natSumsUptoRow.func = some 5 by kernel_rfl).symm.trans hf) |>.symm
  obtain rfl : fn = Tryz.f5 := (Option.some.inj (Tryz.func5.symm.trans hfn)).symm
  refine ⟨by kernel_rfl, fun j t ht => ?_⟩
  have hall : (Tryz.f5.params.toList.all fun u => !Tryz.prog.wantsStandIn u) = true := by kernel_rfl
  exact (show Tryz.prog.wantsStandIn t = false by simpa using List.all_eq_true.1 hall t (Array.mem_toList_iff.2 (Array.mem_of_getElem? ht)))

theorem card : Rows.NatSumsUptoCardSaid :=
  Claim7.holds_tied_plain_at .later [] _ _ _ _ said (fun _ h => by cases h) (by kernel_rfl) (fun _ h => by cases h) natSumsUpto_row_tie rfl ⟨rfl, rfl⟩ (by kernel_rfl) rfl plain (by kernel_rfl)

end Go.Proofs.YtdmjfmipalifpaaGreatDoor.LSums
namespace Go.Proofs.YtdmjfmipalifpaaGreatDoor
theorem natSums_upto_card : Rows.NatSumsUptoCardSaid := LSums.card
end Go.Proofs.YtdmjfmipalifpaaGreatDoor
