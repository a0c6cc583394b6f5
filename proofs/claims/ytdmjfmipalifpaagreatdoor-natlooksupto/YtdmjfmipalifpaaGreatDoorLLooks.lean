/-
  For every two lists of numbers of 32 bits and every place the statement NatLooks answers true: Text, Int, Bits, Bit and Compare are the document's; its card, tied to the program's text.
-/
import Derived.Test.YtdmjfmipalifpaaGreatDoorGvc
import Derived.Test.YtdmjfmipalifpaaGreatDoorLkb
import Derived.Test.YtdmjfmipalifpaaGreatDoorLkd
import Derived.Test.YtdmjfmipalifpaaGreatDoorLke
import Derived.Deep.DeepWitnessRowRef
namespace Go.Proofs.YtdmjfmipalifpaaGreatDoor.LLooks
open Go.ChangeShapes Go.WideShapes Go.ChangeAt Go.RowKit

set_option maxHeartbeats 2000000 in
set_option maxRecDepth 100000 in
theorem walk (av bv : Value) (A B : List Nat) (i : Int) (w : World) (hT : Pw w) (ha : Dw .u32 4294967296 (fun _ => True) w av A) (hla : A.length ≤ 1048576) (hb : Dw .u32 4294967296 (fun _ => True) w bv B) (hlb : B.length ≤ 1048576)
    (hi0 : -9223372036854775808 ≤ i) (hi1 : i ≤ 9223372036854775807) :
    Calls Tryz.prog 4 #[av, bv, .int .i64 i] w fun e w' => e = .returned (.bool true) ∧ Fresh w w' := by
  have haw := fun W (hF : Fresh w W) => awake_any W (hT.fresh hF)
  have hga := given_any av A w ha hla
  have hgb := fun W (hF : Fresh w W) => given_any bv B W (hb.fresh hF) hlb
  have hbM := bl_words ha.dg
  have hbN := bl_words hb.dg
  obtain ⟨aa, ac, rfl⟩ := ha.shape
  obtain ⟨ba, bc, rfl⟩ := hb.shape
  generalize val 4294967296 A = M at *
  generalize val 4294967296 B = N at *
  have HAW : Hid (Unit → _) := fun (_ : Unit) => haw
  have HGA : Hid (Unit → _) := fun (_ : Unit) => hga
  have HGB : Hid (Unit → _) := fun (_ : Unit) => hgb
  have HPW := show Hid _ from hT
  clear haw hga hgb ha hb hT
  generalize A.length = na at *
  generalize B.length = nb at *
  go_enter Tryz.func4, Tryz.ntmps4
  go_wp2_with fail
  refine (HGA.out ()).mono ?_
  rintro e w1 ⟨mv, xv, rfl, hR1, hN1, hF1⟩
  obtain ⟨ma, mn, mc, rfl⟩ := hR1.shape
  obtain ⟨xa, xn, xc, rfl⟩ := hN1.shape
  have HF1 := show Hid _ from hF1
  have HR1 : Hid (Unit → _) := fun (_ : Unit) => hR1
  have HN1 : Hid (Unit → _) := fun (_ : Unit) => hN1
  have HG1 : Hid (Fresh w (w1.alloc (.cells #[.slice xa xn xc] 26))) := hF1.alloc _
  clear hF1 hR1 hN1 HGA
  go_wp2_with fail
  refine (HGB.out () _ HG1.out).mono ?_
  rintro e w2 ⟨nv, yv, rfl, hR2, hN2, hF2⟩
  obtain ⟨na', nn, nc, rfl⟩ := hR2.shape
  obtain ⟨ya, yn, yc, rfl⟩ := hN2.shape
  have hst := Two.made HPW.out HF1.out (HR1.out ()) (HN1.out ()) hF2 hR2 hN2
  have HST := show Hid _ from hst
  clear hst hR2 hN2 hF2 HR1 HN1 HG1 HF1 HGB
  go_wp2_with fail
  refine (HAW.out () _ HST.out.fr).mono ?_
  rintro e w3 ⟨rfl, hF3⟩
  have HS3 := show Hid _ from HST.out.next hF3
  have c3 := HS3.out.cx
  clear hF3 HST HAW
  generalize w1.heap.size = bx at *
  generalize w2.heap.size = by' at *
  by_cases hfm : fitE M = 0
  · by_cases hfn : fitE N = 0
    · have hM : ¬ 65536 < bl M := fun e => by rw [(fit_out e).2] at hfm; exact absurd hfm (by decide)
      have hN : ¬ 65536 < bl N := fun e => by rw [(fit_out e).2] at hfn; exact absurd hfn (by decide)
      have HNX : Hid (∀ W, Two w bx by' (.slice xa xn xc) (.slice ya yn yc) (.slice ma mn mc) (.slice na' nn nc) M N W → Nm W (.slice xa xn xc) M ∧ Nm W (.slice ya yn yc) N) := fun W h => by
        have h1 := h.nx
        have h2 := h.ny
        rw [(fit_in (Nat.le_of_not_lt hM)).1] at h1
        rw [(fit_in (Nat.le_of_not_lt hN)).1] at h2
        exact ⟨h1, h2⟩
      rw [hfm, hfn]
      have HIn : Hid (Unit → _) := fun (_ : Unit) => natInt_any _ M w3 (HNX.out _ HS3.out).1
      have hbM' : bl M ≤ 1099511627776 := by omega
      have HBM := show Hid _ from hbM'
      clear hM hN hfm hfn hbM hbN hbM'
      go_wp2_with fail
      refine (HIn.out ()).mono ?_
      rintro e w4 ⟨rfl, hF4⟩
      have HS4 := show Hid _ from HS3.out.next hF4
      have c4 := HS4.out.cx
      have HRI : Hid (Unit → _) := fun (_ : Unit) => refInt_any _ M w4 HS4.out.rm
      clear HIn hF4 HS3 c3
      go_wp2_with fail
      refine (HRI.out ()).mono ?_
      rintro e w5 ⟨rfl, hw5⟩
      subst hw5
      have HTx : Hid (Unit → _) := fun (_ : Unit) => natText_any _ M w5 (HNX.out _ HS4.out).1 HBM.out HS4.out.pw
      clear HRI
      go_wp2_with fail
      refine (HTx.out ()).mono ?_
      rintro e w6 ⟨rfl, hF6⟩
      have HS6 := show Hid _ from HS4.out.next hF6
      have c6 := HS6.out.cx
      have HRT : Hid (Unit → _) := fun (_ : Unit) => refText_any _ M w6 HS6.out.rm HBM.out
      clear HTx hF6 HS4 c4
      go_wp2_with fail
      refine (HRT.out ()).mono ?_
      rintro e w7 ⟨rfl, hF7⟩
      have HS7 := show Hid _ from HS6.out.next hF7
      have c7 := HS7.out.cx
      have HBt : Hid (Unit → _) := fun (_ : Unit) => natBits_any _ M w7 (HNX.out _ HS7.out).1
      clear HRT hF7 HS6 c6
      go_wp2_with fail
      refine (HBt.out ()).mono ?_
      rintro e w8 ⟨rfl, hF8⟩
      have HS8 := show Hid _ from HS7.out.next hF8
      have c8 := HS8.out.cx
      have HRB : Hid (Unit → _) := fun (_ : Unit) => refBits_any _ M w8 HS8.out.rm
      clear HBt hF8 HS7 c7
      go_wp2_with fail
      refine (HRB.out ()).mono ?_
      rintro e w9 ⟨rfl, hw9⟩
      subst hw9
      have HBi : Hid (Unit → _) := fun (_ : Unit) => natBit_any _ M i w9 (HNX.out _ HS8.out).1 hi0 hi1
      clear HRB
      go_wp2_with fail
      refine (HBi.out ()).mono ?_
      rintro e w10 ⟨rfl, hF10⟩
      have HS10 := show Hid _ from HS8.out.next hF10
      have c10 := HS10.out.cx
      have d10 := HS10.out.cy
      have HRi : Hid (Unit → _) := fun (_ : Unit) => refBit_any _ M i w10 HS10.out.rm hi0 hi1
      clear HBi hF10 HS8 c8
      go_wp2_with fail
      refine (HRi.out ()).mono ?_
      rintro e w11 ⟨rfl, hw11⟩
      subst hw11
      have HC1 : Hid (Unit → _) := fun (_ : Unit) => natCompare_any _ _ M N w11 (HNX.out _ HS10.out).1 (HNX.out _ HS10.out).2
      clear HRi
      go_wp2_with fail
      refine (HC1.out ()).mono ?_
      rintro e w12 ⟨rfl, hF12⟩
      have HS12 := show Hid _ from HS10.out.next hF12
      have c12 := HS12.out.cx
      have HC2 : Hid (Unit → _) := fun (_ : Unit) => refCompare_any _ _ M N w12 HS12.out.rm HS12.out.rn
      clear HC1 hF12 HS10 c10 d10
      go_wp2_with fail
      refine (HC2.out ()).mono ?_
      rintro e w13 ⟨rfl, hF13⟩
      have HS13 := show Hid _ from HS12.out.next hF13
      have c13 := HS13.out.cx
      have HC3 : Hid (Unit → _) := fun (_ : Unit) => natCompare_any _ _ M M w13 (HNX.out _ HS13.out).1 (HNX.out _ HS13.out).1
      clear HC2 hF13 HS12 c12
      go_wp2_with fail
      refine (HC3.out ()).mono ?_
      rintro e w14 ⟨rfl, hF14⟩
      have HS14 := show Hid _ from HS13.out.next hF14
      have hcc := cmpN_eq M
      clear HC3 hF14 HS13 c13
      go_wp2
      go_ret
      exact ⟨by simp, HS14.out.fr⟩
    · have hn' : decide (fitE N = 0) = false := decide_eq_false hfn
      rw [hfm]
      have HFr := show Hid _ from HS3.out.fr
      clear HS3 hbM hbN hfm c3
      go_wp2
      go_ret
      exact ⟨rfl, HFr.out⟩
  · have hn' : decide (fitE M = 0) = false := decide_eq_false hfm
    have HFr := show Hid _ from HS3.out.fr
    clear HS3 hbM hbN c3
    go_wp2
    go_ret
    exact ⟨rfl, HFr.out⟩

set_option maxRecDepth 100000 in
theorem contract (H : Type) (enc : TypeId × Value → H) (W : World) (base : Nat) (args : Array Value) (ds gs : List (DataW H)) (before : List MemPlace)
    (hval : ∀ (j : Nat) t v, Tryz.f4.params[j]? = some t → args[j]? = some v → Value.okWide Tryz.prog W .any base t v)
    (hW : DataW.Whole enc Tryz.prog Tryz.f4.params.toList Rows.natLooksSpec.vars false W args.toList ds gs before) (hbk : Rows.uptoSmall H (ds ++ gs) = true)
    (hsz : (DataW.weightsEach Tryz.prog (Tryz.f4.params.toList ++ []) (ds ++ gs)).all (· ≤ reachBytes) = true) (hL : laidMetH Tryz.prog Rows.natLooksRow.laid W) :
    Calls Tryz.prog 4 args W fun e W' => ∃ v, e = .returned v ∧ Rows.natLooksSpec.post enc Tryz.prog Tryz.f4 false true false false W args v W' := by
  have hW' := hW
  obtain ⟨p, q, hA0, hV, rfl, hfz, hnd⟩ := hW
  have hA : DataW.TrodAll enc Tryz.prog W 0 (fun _ => true) true Tryz.f4.params.toList args.toList ds p := hA0
  rw [Tryz.params4] at hA hval hsz
  obtain ⟨rfl, rfl⟩ := trodVars_none hV
  obtain ⟨v0, v1, v2, d0, d1, d2, p0, p1, p2, rfl, rfl, rfl, h0, h1, h2⟩ := trodAll_three hA
  obtain ⟨x2, rfl, rfl, rfl, w2⟩ := open_int Tryz.underlying3 (hval 2 3 v2 rfl rfl) h2
  obtain ⟨ao, ln, cp, rfl⟩ := okWide_slice Tryz.underlying37 (hval 0 37 v0 rfl rfl)
  obtain ⟨bo, lm, cq, rfl⟩ := okWide_slice Tryz.underlying37 (hval 1 37 v1 rfl rfl)
  have hbd := bulk_le hbk
  simp only [List.append_nil, Rows.uptoBulkAll] at hbd
  obtain ⟨f0, hf0⟩ := h0
  obtain ⟨f1, hf1⟩ := h1
  obtain ⟨A, hA1, hA2⟩ := dw_of (x := (d0, p0)) hf0 (by show Rows.uptoBulk d0 ≤ _; omega)
  obtain ⟨B, hB1, hB2⟩ := dw_of (x := (d1, p1)) hf1 (by show Rows.uptoBulk d1 ≤ _; omega)
  obtain ⟨b1, b2⟩ := i64_of w2
  refine (walk _ _ A B x2 W (pw_of_laid hL (by simp [Rows.natLooksRow])) hA1 hA2 hB1 hB2 b1 b2).mono fun e W' ⟨he, hk⟩ => ?_
  subst he
  exact ⟨_, rfl, post_law rfl (by kernel_rfl) (by kernel_rfl) hW' rfl hk⟩

set_option maxRecDepth 100000 in
theorem laid_met (os : Os) : laidMet Tryz.prog Rows.natLooksUptoRow.laid ((layIn (World.holding Tryz.prog os ⟨#[], #[], []⟩)).forCall (fun _ _ => 0) ⟨#[], #[.slice none 0 0, .slice none 0 0, .int .i64 0], []⟩).memory :=
  laidMet_of_run' 8 (by kernel_rfl) (by kernel_rfl)
set_option maxRecDepth 100000 in
theorem reads (os : Os) {H : Type} (enc : TypeId × Value → H) : ∃ places, DataW.whole enc Tryz.prog ((layIn (World.holding Tryz.prog os ⟨#[], #[], []⟩)).forCall (fun _ _ => 0) ⟨#[], #[.slice none 0 0, .slice none 0 0, .int .i64 0], []⟩).memory Tryz.f4.params.toList Rows.natLooksSpec.vars false (#[.slice none 0 0, .slice none 0 0, .int .i64 0] : Array Value).toList 8 = some ([.nil, .nil, .lit (.int .i64 0)], [], places) :=
  ⟨[], by kernel_rfl⟩

set_option maxRecDepth 100000 in
theorem lifted (os : Os) (started : os.Started) (H : Type) (enc : TypeId × Value → H) (F : Stop.Interp) :
    ReturnsInHanded {} Tryz.checked os 4 .any ((Rows.OpenSpec.upto Rows.natLooksSpec).preRow enc Tryz.prog Tryz.f4 Rows.natLooksUptoRow.domain false Rows.natLooksUptoRow.laid) (((Rows.OpenSpec.upto Rows.natLooksSpec).at F).post enc Tryz.prog Tryz.f4 false true false false) := by
  obtain ⟨places, hx⟩ := reads os enc
  refine returnsInHanded_of_row (C := Tryz.checked) (s := Rows.OpenSpec.upto Rows.natLooksSpec) Tryz.own started (by kernel_rfl) Tryz.func4
    (witness_row_atRef (enc := enc) (C := Tryz.checked) false (layIn (World.holding Tryz.prog os ⟨#[], #[], []⟩)) #[.slice none 0 0, .slice none 0 0, .int .i64 0] rfl (by kernel_rfl) (by kernel_rfl) (by kernel_rfl)
      (OpenSpec.preRow_of_cond 8 hx (by kernel_rfl) (fun k hk => by cases hk; kernel_rfl) (by kernel_rfl) (laid_met os))) ?_
  intro W base args ds gs before hval hW _ hc hsz hL _ _
  exact contract H enc W base args ds gs before hval hW (hc _ rfl) hsz hL

theorem said : Rows.NatLooksUptoSaid :=
  OpenClaim.holds_of_cond 4 Tryz.f4 rfl rfl rfl rfl rfl rfl rfl ⟨rfl, rfl, rfl, rfl, rfl⟩ rfl rfl rfl rfl rfl (by kernel_rfl) Tryz.func4 (by kernel_rfl)
    (of_decide_eq_true (by kernel_rfl)) (by unfold Func.isWrapper; first | (rw [if_pos (by decide +kernel)]; kernel_rfl) | (rw [if_neg (by decide +kernel)]; exact ⟨rfl, rfl⟩))
    (fun os started H enc _ F => by rw [OpenClaim.pre_eq_preRow]; exact lifted os started H enc F)

theorem plain (f : FuncId) (fn : Func) (hf : Tryz.pinned.checked.prog.funcNamed Rows.natLooksUptoRow.func = some f) (hfn : Tryz.pinned.checked.prog.funcs[f]? = some fn) :
    true = Tryz.pinned.checked.prog.looks [] ∧ ∀ (j : Nat) t, fn.params[j]? = some t → Tryz.pinned.checked.prog.wantsStandIn t = false := by
  obtain rfl : f = 4 := Option.some.inj ((show Tryz.prog.funcNamed Rows.natLooksUptoRow.func = some 4 by kernel_rfl).symm.trans hf) |>.symm
  obtain rfl : fn = Tryz.f4 := (Option.some.inj (Tryz.func4.symm.trans hfn)).symm
  refine ⟨by kernel_rfl, fun j t ht => ?_⟩
  have hall : (Tryz.f4.params.toList.all fun u => !Tryz.prog.wantsStandIn u) = true := by kernel_rfl
  exact (show Tryz.prog.wantsStandIn t = false by simpa using List.all_eq_true.1 hall t (Array.mem_toList_iff.2 (Array.mem_of_getElem? ht)))

theorem card : Rows.NatLooksUptoCardSaid :=
  Claim7.holds_tied_plain_at .later [] _ _ _ _ said (fun _ h => by cases h) (by kernel_rfl) (fun _ h => by cases h) natLooksUpto_row_tie rfl ⟨rfl, rfl⟩ (by kernel_rfl) rfl plain (by kernel_rfl)

end Go.Proofs.YtdmjfmipalifpaaGreatDoor.LLooks
namespace Go.Proofs.YtdmjfmipalifpaaGreatDoor
theorem natLooks_upto_card : Rows.NatLooksUptoCardSaid := LLooks.card
end Go.Proofs.YtdmjfmipalifpaaGreatDoor
