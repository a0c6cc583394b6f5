/-
  For all h of 16 bits the statement SingleHalves answers true: awake does, and any half, or brain, as a single and back is it (a none is the common one); its card, tied to the program's text.
-/
import Derived.Test.YtagbjlkpmjbfnacDoorFh
import Derived.Test.YtagbjlkpmjbfnacDoorFoM
namespace Go.Proofs.YtagbjlkpmjbfnacDoor
open Go.ChangeShapes Go.WideShapes Go.ChangeAt Go.RowKit Ieee

theorem halv_of_laid {W : World} {l : List (String × DataW Unit)} (h : laidMet Tryd.prog l W) (hm : ("herald/single.halves", Rows.laid_herald_single_halves) ∈ l) : Halv W :=
  two_of_laid h (a := 5) (b := 10) hm (g := 0) (t := 42) (ti := 3) (by kernel_rfl) (by kernel_rfl) Tryd.underlying42 rfl rfl rfl rfl rfl Tryd.underlying3 cellsI
theorem brai_of_laid {W : World} {l : List (String × DataW Unit)} (h : laidMet Tryd.prog l W) (hm : ("herald/single.brains", Rows.laid_herald_single_brains) ∈ l) : Brai W :=
  two_of_laid h (a := 8) (b := 7) hm (g := 2) (t := 42) (ti := 3) (by kernel_rfl) (by kernel_rfl) Tryd.underlying42 rfl rfl rfl rfl rfl Tryd.underlying3 cellsI
theorem u16_of {x : Int} (h : (Lit.int .u16 x).wf = true) : ∃ b : Nat, x = (b : Int) ∧ b < 65536 := by
  simp [Lit.wf, IntKind.min, IntKind.max, IntKind.signed, IntKind.bits] at h
  exact ⟨x.toNat, by omega, by omega⟩
theorem conv_lt32 (d : Datum) : conv single d < 4294967296 := by
  have h32 : 2 ^ single.width = 4294967296 := by decide
  cases d with
  | nan s t => show noneOf single < _; rw [noneB_single]; decide
  | infinity s => rw [← h32]; exact single.word_lt s single.infRung_lt
  | number s m e => rw [← h32]; exact single.nearest_lt s m e
/-- All that these calls ask of the variables. -/
structure Vars (w : World) : Prop where
  s : Sing w
  t : Tab w
  h : Halv w
  b : Brai w
theorem Vars.fresh {w w' : World} (v : Vars w) (hk : Fresh w w') : Vars w' := ⟨v.s.fresh hk, v.t.fresh hk, v.h.fresh hk, v.b.fresh hk⟩
end Go.Proofs.YtagbjlkpmjbfnacDoor

namespace Go.Proofs.YtagbjlkpmjbfnacDoor.LHalves
open Go.ChangeShapes Go.WideShapes Go.ChangeAt Go.RowKit Ieee

set_option maxHeartbeats 2000000 in
set_option maxRecDepth 100000 in
theorem walk (h : Nat) (w : World) (hv : Vars w) (hh : h < 65536) :
    Calls Tryd.prog 4 #[.int .u16 h] w fun r w' => r = .returned (.bool true) ∧ Fresh w w' := by
  have H1 := show Hid _ from fun X (hX : Vars X) => FromHalf_any h X hX.s hX.t hX.h hh
  have H2 := show Hid _ from fun X (hX : Vars X) => Half_any (conv single (half.read h)) X hX.s hX.t hX.h (conv_lt32 _)
  have H3 := show Hid _ from fun X (hX : Vars X) => FromBrain_any h X hX.s hX.t hX.b hh
  have H4 := show Hid _ from fun X (hX : Vars X) => Brain_any (conv single (brain.read h)) X hX.s hX.t hX.b (conv_lt32 _)
  rw [half_back h hh] at H2
  rw [brain_back h hh] at H4
  generalize conv single (half.read h) = a1 at *
  generalize conv single (brain.read h) = b1 at *
  obtain ⟨D, hD⟩ : ∃ D, D = h / 1024 % 32 := ⟨_, rfl⟩
  obtain ⟨R, hR⟩ : ∃ R, R = h % 1024 := ⟨_, rfl⟩
  obtain ⟨D', hD'⟩ : ∃ D, D = h / 128 % 256 := ⟨_, rfl⟩
  obtain ⟨R', hR'⟩ : ∃ R, R = h % 128 := ⟨_, rfl⟩
  rw [← hD, ← hR] at H2
  rw [← hD', ← hR'] at H4
  have a1' : (h : Int) / 1024 % 32 = (D : Int) := by omega
  have a2' : (h : Int) % 1024 = (R : Int) := by omega
  have a3' : (h : Int) / 128 % 256 = (D' : Int) := by omega
  have a4' : (h : Int) % 128 = (R' : Int) := by omega
  clear hD hR hD' hR'
  obtain ⟨A, hA⟩ : ∃ A, A = if D = 31 ∧ 0 < R then 32256 else h := ⟨_, rfl⟩
  obtain ⟨B, hB⟩ : ∃ B, B = if D' = 255 ∧ 0 < R' then 32704 else h := ⟨_, rfl⟩
  rw [← hA] at H2
  rw [← hB] at H4
  have HA := show Hid _ from hA
  have HB := show Hid _ from hB
  clear hA hB
  go_enter Tryd.func4, Tryd.ntmps4
  go_wp2_with fail
  refine (H1.out _ hv).mono ?_
  rintro r w1 ⟨rfl, h1⟩
  have hv1 := hv.fresh h1
  go_wp2_with fail
  refine (H2.out _ hv1).mono ?_
  rintro r w2 ⟨rfl, h2⟩
  have hv2 := hv1.fresh h2
  go_wp2_with fail
  refine (H3.out _ hv2).mono ?_
  rintro r w3 ⟨rfl, h3⟩
  have hv3 := hv2.fresh h3
  go_wp2_with fail
  refine (H4.out _ hv3).mono ?_
  rintro r w4 ⟨rfl, h4⟩
  have hv4 := hv3.fresh h4
  have hF := ((h1.trans h2 (fun _ _ e => e)).trans h3 (fun _ _ e => e)).trans h4 (fun _ _ e => e)
  have HW := show Hid _ from fun X (hX : Sing X) => awake_any X hX
  go_upto_region 3 with fail
  go_cut [23] (fun v w' => v = .bool (decide (D = 31 ∧ 0 < R)) ∧ w' = w4)
  case first =>
    by_cases d1 : D = 31
    · subst d1
      by_cases r1 : 0 < R
      · have r1' : (0 : Int) < (R : Int) := by omega
        go_wp2_with fail
        go_meet
        case rel => exact ⟨by simp [r1], rfl⟩
      · obtain rfl : R = 0 := by omega
        go_wp2_with fail
        go_meet
        case rel => exact ⟨by rw [decide_eq_false (by omega)], rfl⟩
    · have d1' : ((D : Int) == 31) = false := by simp; omega
      go_wp2_with fail
      go_meet
      case rel => exact ⟨by rw [decide_eq_false (by omega)], rfl⟩
  case rest =>
    obtain ⟨rfl, hwc⟩ := hcut
    have hwc' := hwc.symm
    clear hwc
    subst hwc'
    go_upto_if 23 with fail
    go_cut [5] (fun v w' => v = .int .u16 A ∧ w' = w4)
    case first =>
      have hA := HA.out
      by_cases c : D = 31 ∧ 0 < R
      · rw [decide_eq_true c]
        rw [if_pos c] at hA
        go_wp2_with fail
        go_meet
        case rel => exact ⟨by rw [hA]; rfl, rfl⟩
      · rw [decide_eq_false c]
        rw [if_neg c] at hA
        go_wp2_with fail
        go_meet
        case rel => exact ⟨by rw [hA], rfl⟩
    case rest =>
      obtain ⟨rfl, hwc⟩ := hcut
      have hwc' := hwc.symm
      clear hwc
      subst hwc'
      go_upto_region 5 with fail
      go_cut [32] (fun v w' => v = .bool (decide (D' = 255 ∧ 0 < R')) ∧ w' = w4)
      case first =>
        by_cases d1 : D' = 255
        · subst d1
          by_cases r1 : 0 < R'
          · have r1' : (0 : Int) < (R' : Int) := by omega
            go_wp2_with fail
            go_meet
            case rel => exact ⟨by simp [r1], rfl⟩
          · obtain rfl : R' = 0 := by omega
            go_wp2_with fail
            go_meet
            case rel => exact ⟨by rw [decide_eq_false (by omega)], rfl⟩
        · have d1' : ((D' : Int) == 255) = false := by simp; omega
          go_wp2_with fail
          go_meet
          case rel => exact ⟨by rw [decide_eq_false (by omega)], rfl⟩
      case rest =>
        obtain ⟨rfl, hwc⟩ := hcut
        have hwc' := hwc.symm
        clear hwc
        subst hwc'
        go_upto_if 32 with fail
        go_cut [6] (fun v w' => v = .int .u16 B ∧ w' = w4)
        case first =>
          have hB := HB.out
          by_cases c : D' = 255 ∧ 0 < R'
          · rw [decide_eq_true c]
            rw [if_pos c] at hB
            go_wp2_with fail
            go_meet
            case rel => exact ⟨by rw [hB]; rfl, rfl⟩
          · rw [decide_eq_false c]
            rw [if_neg c] at hB
            go_wp2_with fail
            go_meet
            case rel => exact ⟨by rw [hB], rfl⟩
        case rest =>
          obtain ⟨rfl, hwc⟩ := hcut
          have hwc' := hwc.symm
          clear hwc
          subst hwc'
          go_wp2_with fail
          refine (HW.out _ hv4.s).mono ?_
          rintro r w5 ⟨rfl, h5⟩
          go_wp2
          go_ret
          exact ⟨by simp, hF.trans h5 (fun _ _ e => e)⟩

theorem contract (H : Type) (enc : TypeId × Value → H) (W : World) (base : Nat) (args : Array Value) (ds gs : List (DataW H)) (before : List MemPlace)
    (hval : ∀ (j : Nat) t v, Tryd.f4.params[j]? = some t → args[j]? = some v → Value.okWide Tryd.prog W .any base t v)
    (hW : DataW.Whole enc Tryd.prog Tryd.f4.params.toList Rows.singleHalvesSpec.vars false W args.toList ds gs before) 
    (hsz : (DataW.weightsEach Tryd.prog (Tryd.f4.params.toList ++ []) (ds ++ gs)).all (· ≤ reachBytes) = true) (hL : laidMetH Tryd.prog Rows.singleHalvesRow.laid W) :
    Calls Tryd.prog 4 args W fun e W' => ∃ v, e = .returned v ∧ Rows.singleHalvesSpec.post enc Tryd.prog Tryd.f4 false true false false W args v W' := by
  have hW' := hW
  obtain ⟨p, q, hA0, hV, rfl, hfz, hnd⟩ := hW
  have hA : DataW.TrodAll enc Tryd.prog W 0 (fun _ => true) true Tryd.f4.params.toList args.toList ds p := hA0
  rw [Tryd.params4] at hA hval hsz
  obtain ⟨rfl, rfl⟩ := trodVars_none hV
  obtain ⟨v0, d0, rfl, rfl, h0⟩ := trodAll_one hA
  obtain ⟨x0, rfl, rfl, rfl, w0⟩ := open_int Tryd.underlying23 (hval 0 23 v0 rfl rfl) h0
  obtain ⟨a, rfl, ha⟩ := u16_of w0
  refine (walk a W ⟨sing_of_laid hL (by simp [Rows.singleHalvesRow]), tab_of_laid hL, halv_of_laid hL (by simp [Rows.singleHalvesRow]), brai_of_laid hL (by simp [Rows.singleHalvesRow])⟩ ha).mono fun e W' ⟨he, hk⟩ => ?_
  subst he
  exact ⟨_, rfl, post_law rfl (by kernel_rfl) (by kernel_rfl) hW' rfl hk⟩

theorem laid_met (os : Os) : laidMet Tryd.prog Rows.singleHalvesRow.laid ((layIn (World.holding Tryd.prog os ⟨#[], #[], []⟩)).forCall (fun _ _ => 0) ⟨#[], #[.int .u16 0], []⟩).memory :=
  laidMet_of_run' 8 (by kernel_rfl) (by kernel_rfl)
theorem reads (os : Os) {H : Type} (enc : TypeId × Value → H) : ∃ places, DataW.whole enc Tryd.prog ((layIn (World.holding Tryd.prog os ⟨#[], #[], []⟩)).forCall (fun _ _ => 0) ⟨#[], #[.int .u16 0], []⟩).memory Tryd.f4.params.toList Rows.singleHalvesSpec.vars false (#[.int .u16 0] : Array Value).toList 8 = some ([.lit (.int .u16 0)], [], places) :=
  ⟨[], by kernel_rfl⟩

set_option maxRecDepth 100000 in
theorem lifted (os : Os) (started : os.Started) (H : Type) (enc : TypeId × Value → H) (F : Stop.Interp) :
    ReturnsInHanded {} Tryd.checked os 4 .any ((OpenSpec.ofChange Rows.singleHalvesSpec).preRow enc Tryd.prog Tryd.f4 Rows.singleHalvesRow.domain false Rows.singleHalvesRow.laid) (((OpenSpec.ofChange Rows.singleHalvesSpec).at F).post enc Tryd.prog Tryd.f4 false true false false) := by
  obtain ⟨places, hx⟩ := reads os enc
  refine returnsInHanded_of_row (C := Tryd.checked) (s := OpenSpec.ofChange Rows.singleHalvesSpec) Tryd.own started (by kernel_rfl) Tryd.func4
    (witness_row_at (enc := enc) (C := Tryd.checked) false (layIn (World.holding Tryd.prog os ⟨#[], #[], []⟩)) #[.int .u16 0] rfl (by kernel_rfl) (by kernel_rfl) (by kernel_rfl)
      (OpenSpec.preRow_of_cond 8 hx (by kernel_rfl) (fun k hk => by cases hk) (by kernel_rfl) (laid_met os))) ?_
  intro W base args ds gs before hval hW _ hc hsz hL _ _
  exact contract H enc W base args ds gs before hval hW hsz hL

theorem said : Rows.SingleHalvesSaid :=
  OpenClaim.holds_of_cond 4 Tryd.f4 rfl rfl rfl rfl rfl rfl rfl ⟨rfl, rfl, rfl, rfl, rfl⟩ rfl rfl rfl rfl rfl (by kernel_rfl) Tryd.func4 (by kernel_rfl)
    (of_decide_eq_true (by kernel_rfl)) (by unfold Func.isWrapper; first | (rw [if_pos (by decide +kernel)]; kernel_rfl) | (rw [if_neg (by decide +kernel)]; exact ⟨rfl, rfl⟩))
    (fun os started H enc _ F => by rw [OpenClaim.pre_eq_preRow]; exact lifted os started H enc F)

theorem plain (f : FuncId) (fn : Func) (hf : Tryd.pinned.checked.prog.funcNamed Rows.singleHalvesRow.func = some f) (hfn : Tryd.pinned.checked.prog.funcs[f]? = some fn) :
    false = Tryd.pinned.checked.prog.looks [] ∧ ∀ (j : Nat) t, fn.params[j]? = some t → Tryd.pinned.checked.prog.wantsStandIn t = false := by
  obtain rfl : f = 4 := Option.some.inj ((show Tryd.prog.funcNamed Rows.singleHalvesRow.func = some 4 by kernel_rfl).symm.trans hf) |>.symm
  obtain rfl : fn = Tryd.f4 := (Option.some.inj (Tryd.func4.symm.trans hfn)).symm
  refine ⟨by kernel_rfl, fun j t ht => ?_⟩
  have hall : (Tryd.f4.params.toList.all fun u => !Tryd.prog.wantsStandIn u) = true := by kernel_rfl
  exact (show Tryd.prog.wantsStandIn t = false by simpa using List.all_eq_true.1 hall t (Array.mem_toList_iff.2 (Array.mem_of_getElem? ht)))

theorem card : Rows.SingleHalvesCardSaid :=
  Claim7.holds_tied_plain_at .later [] _ _ _ _ said (fun _ h => by cases h) (by kernel_rfl) (fun _ h => by cases h) singleHalves_row_tie rfl ⟨rfl, rfl⟩ (by kernel_rfl) rfl plain (by kernel_rfl)

end Go.Proofs.YtagbjlkpmjbfnacDoor.LHalves
namespace Go.Proofs.YtagbjlkpmjbfnacDoor
theorem singleHalves_card : Rows.SingleHalvesCardSaid := LHalves.card
end Go.Proofs.YtagbjlkpmjbfnacDoor
