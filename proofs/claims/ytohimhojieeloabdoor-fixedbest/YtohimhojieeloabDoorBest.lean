/-
  For every list of int64 the statement FixedBest answers true: awake does, Argmax answers the first place of the greatest, as the document says, and what is handed in stays; its card, tied to the program's text.
-/
import Derived.Test.YtohimhojieeloabDoorRw64
namespace Go.Proofs.YtohimhojieeloabDoor.Best
open Go.ChangeShapes Go.WideShapes Go.ChangeAt Go.RowKit

set_option maxHeartbeats 800000 in
theorem refArgmax_any (p : Nat → Prop) (rv : Value) (zs : List Int) (w : World) (hr : Rw p w rv zs) :
    Calls Tryd.prog 14 #[rv] w fun e w' => e = .returned (.int .i64 (am zs zs.length)) ∧ Drew w w' := by
  obtain ⟨ao, cap, rfl, hl, hc, _⟩ := hr
  go_enter Tryd.func14, Tryd.ntmps14
  go_wp2
  go_loopw [3, 8] (fun b i wr => ∃ j : Nat, j ≤ zs.length ∧ i = .int .i64 j ∧ b = .int .i64 (am zs j) ∧ Drew w wr) (fun _ i _ => zs.length - (intOf i).toNat)
  case atStart => exact ⟨0, by omega, rfl, rfl, Drew.refl _⟩
  case round =>
    obtain ⟨j, hj, rfl, rfl, hwr⟩ := hrel
    by_cases hlt : j < zs.length
    · obtain ⟨b, off, rfl, _, _, hcell⟩ := hc (fun e => by rw [e] at hlt; simp at hlt)
      have g1 : wr.cell? ⟨b, off + j, none⟩ = some (.int .i64 (zs.getD j 0)) := by obtain ⟨n, rfl⟩ := hwr; exact hcell j hlt
      have HW : Hid (Drew w wr) := hwr
      have b0 := am_lo zs j
      have b1 := am_hi zs j
      have HS : Hid (am zs (j + 1) = if am zs j < 0 ∨ zs.getD (am zs j).toNat 0 < zs.getD j 0 then (j : Int) else am zs j) := rfl
      by_cases hneg : am zs j < 0
      · have hm : am zs j = -1 := by omega
        rw [hm] at HS ⊢
        clear hcell hwr hc b0 b1 hneg hm
        generalize zs.getD j 0 = x at *
        go_wp2
        go_roundw
        case rel => exact ⟨j + 1, by omega, by go_num, by rw [HS.out, if_pos (Or.inl (by omega))], HW.out⟩
        case measure => simp [intOf]; omega
      · obtain ⟨m, hm⟩ : ∃ m : Nat, am zs j = m := ⟨(am zs j).toNat, by omega⟩
        rw [hm] at HS b1 ⊢
        have g2 : wr.cell? ⟨b, off + m, none⟩ = some (.int .i64 (zs.getD m 0)) := by obtain ⟨n, rfl⟩ := hwr; exact hcell m (by omega)
        rw [Int.toNat_natCast] at HS
        clear hcell hwr hc b0 hm hneg
        generalize zs.getD j 0 = x at *
        generalize zs.getD m 0 = y at *
        by_cases hxy : y < x
        · go_wp2
          go_roundw
          case rel => exact ⟨j + 1, by omega, by go_num, by rw [HS.out, if_pos (Or.inr hxy)], HW.out⟩
          case measure => simp [intOf]; omega
        · go_wp2
          go_roundw
          case rel => exact ⟨j + 1, by omega, by go_num, by rw [HS.out, if_neg (by omega)], HW.out⟩
          case measure => simp [intOf]; omega
    · obtain rfl : j = zs.length := by omega
      have HW : Hid (Drew w wr) := hwr
      clear hwr
      go_wp2
      go_ret
      exact ⟨rfl, HW.out⟩

set_option maxHeartbeats 1000000 in
set_option maxRecDepth 100000 in
theorem walk (rv : Value) (zs : List Int) (w : World) (hB : Bend w) (hr : Rw (fun b => b < w.heap.size) w rv zs) :
    Calls Tryd.prog 4 #[rv] w fun e w' => e = .returned (.bool true) ∧ Fresh w w' := by
  go_enter Tryd.func4, Tryd.ntmps4
  go_wp2_with fail
  refine (awake_any _ hB).mono ?_
  rintro e w1 ⟨rfl, hk1⟩
  have hr1 := hr.kept hk1 (fun _ _ e => e)
  obtain ⟨tv, W1, hrun, hown1, hgrow⟩ := twin64 31 _ w1.heap.size _ (own64_empty w1) (by simp) _ zs _ (hr1.kept ((Kept.refl (fun _ => False) _).alloc _) (fun _ _ e => e))
  have hkW : Fresh w1 W1 := ((Kept.refl _ _).alloc _).grown hgrow (fun k hk e => by simp [Value.ownBlock] at e; omega)
  have hzl : zs.length ≤ 17592186044416 := by obtain ⟨_, _, _, h, _⟩ := hr; exact h
  have hzr : ∀ z ∈ zs, I64 z := by obtain ⟨_, _, _, _, _, h, _⟩ := hr; exact h
  have htw := rw_of_own hown1 hzl hzr
  have hrW := hr1.kept hkW (fun _ _ e => e)
  obtain ⟨tao, tcap, rfl⟩ : ∃ ao cap, tv = .slice ao zs.length cap := ownsRow_shape hown1
  obtain ⟨rao, rcap, rfl, -⟩ := hr1
  have HK : Hid (Fresh w W1) := hk1.trans hkW (fun _ _ e => e)
  clear hr hgrow hown1 hB hk1 hkW
  go_wp2_with (at_builtin; refine Lib.wpList_append_run _ rfl _ _ _ _ rfl _ _ rfl rfl _ _ hrun ?_)
  clear hrun
  refine (argmax_any _ _ zs _ htw).mono ?_
  rintro e W2 ⟨rfl, hk2⟩
  have htw2 := htw.kept hk2.fresh (fun _ _ e => e)
  have hrW2 := hrW.kept hk2.fresh (fun _ _ e => e)
  clear htw hrW
  go_wp2_with fail
  refine (refArgmax_any _ _ zs _ hrW2).mono ?_
  rintro e W3 ⟨rfl, hk3⟩
  have htw3 := htw2.kept hk3.fresh (fun _ _ e => e)
  have hrW3 := hrW2.kept hk3.fresh (fun _ _ e => e)
  have HK3 : Hid (Fresh w W3) := HK.out.trans (hk2.trans hk3).fresh (fun _ _ e => e)
  clear htw2 hrW2 hk2 hk3 HK
  obtain ⟨_, _, ht1, _, ht2, _⟩ := htw3
  obtain ⟨_, _, hr1, _, hr2, _⟩ := hrW3
  cases ht1
  cases hr1
  generalize am zs zs.length = M
  go_wp2
  go_loopw [20] (fun i wr => ∃ j : Nat, j ≤ zs.length ∧ i = .int .i64 j ∧ Drew W3 wr) (fun i _ => zs.length - (intOf i).toNat)
  case atStart => exact ⟨0, by omega, rfl, Drew.refl _⟩
  case round =>
    obtain ⟨j, hj, rfl, hwr⟩ := hrel
    have HW : Hid (Drew W3 wr) := hwr
    by_cases hlt : j < zs.length
    · have hne : zs ≠ [] := fun e => by rw [e] at hlt; simp at hlt
      obtain ⟨b, off, rfl, _, _, hcell⟩ := ht2 hne
      obtain ⟨b', off', rfl, _, _, hcell'⟩ := hr2 hne
      have g1 : wr.cell? ⟨b, off + j, none⟩ = some (.int .i64 (zs.getD j 0)) := by obtain ⟨n, rfl⟩ := hwr; exact hcell j hlt
      have g2 : wr.cell? ⟨b', off' + j, none⟩ = some (.int .i64 (zs.getD j 0)) := by obtain ⟨n, rfl⟩ := hwr; exact hcell' j hlt
      clear hcell hcell' hwr ht2 hr2 hne
      generalize zs.getD j 0 = x at *
      go_wp2
      go_roundw
      case rel => exact ⟨j + 1, by omega, by go_num, HW.out⟩
      case measure => simp [intOf]; omega
    · obtain rfl : j = zs.length := by omega
      clear hwr ht2 hr2
      go_wp2
      go_ret
      exact ⟨rfl, HK3.out.trans HW.out.fresh (fun _ _ e => e)⟩

theorem contract (H : Type) (enc : TypeId × Value → H) (W : World) (base : Nat) (args : Array Value) (ds gs : List (DataW H)) (before : List MemPlace)
    (hval : ∀ (j : Nat) t v, Tryd.f4.params[j]? = some t → args[j]? = some v → Value.okWide Tryd.prog W .any base t v)
    (hW : DataW.Whole enc Tryd.prog Tryd.f4.params.toList Rows.fixedBestSpec.vars false W args.toList ds gs before) 
    (hsz : (DataW.weightsEach Tryd.prog (Tryd.f4.params.toList ++ []) (ds ++ gs)).all (· ≤ reachBytes) = true) (hL : laidMetH Tryd.prog Rows.fixedBestRow.laid W) :
    Calls Tryd.prog 4 args W fun e W' => ∃ v, e = .returned v ∧ Rows.fixedBestSpec.post enc Tryd.prog Tryd.f4 false true false false W args v W' := by
  have hW' := hW
  obtain ⟨p, q, hA0, hV, rfl, hfz, hnd⟩ := hW
  have hA : DataW.TrodAll enc Tryd.prog W 0 (fun _ => true) true Tryd.f4.params.toList args.toList ds p := hA0
  rw [Tryd.params4] at hA hval hsz
  obtain ⟨rfl, rfl⟩ := trodVars_none hV
  obtain ⟨v0, d0, rfl, rfl, h0⟩ := trodAll_one hA
  obtain ⟨ao, ln, cap, rfl⟩ := okWide_slice Tryd.underlying31 (hval 0 31 v0 rfl rfl)
  obtain ⟨fuel, hf⟩ := h0
  obtain ⟨zs, hr, _⟩ := rw_of (x := (d0, p)) hf (fun es sp e => by
    have e' : d0 = .slice es sp := e
    subst e'
    have := sized_slice hsz (j := 0) (t := 31) (e := 2) rfl rfl Tryd.underlying31
    rw [Tryd.b64] at this
    simp only [reachBytes] at this
    omega)
  refine (walk _ zs W (bend_of_laid hL) hr).mono fun e W' ⟨he, hk⟩ => ?_
  subst he
  exact ⟨_, rfl, post_law rfl (by kernel_rfl) (by kernel_rfl) hW' rfl hk⟩

theorem laid_met (os : Os) : laidMet Tryd.prog Rows.fixedBestRow.laid ((layIn (World.holding Tryd.prog os ⟨#[], #[], []⟩)).forCall (fun _ _ => 0) ⟨#[], #[.slice none 0 0], []⟩).memory :=
  laidMet_of_run' 8 (by kernel_rfl) (by kernel_rfl)
theorem reads (os : Os) {H : Type} (enc : TypeId × Value → H) : ∃ places, DataW.whole enc Tryd.prog ((layIn (World.holding Tryd.prog os ⟨#[], #[], []⟩)).forCall (fun _ _ => 0) ⟨#[], #[.slice none 0 0], []⟩).memory Tryd.f4.params.toList Rows.fixedBestSpec.vars false (#[.slice none 0 0] : Array Value).toList 8 = some ([.nil], [], places) :=
  ⟨[], by kernel_rfl⟩

set_option maxRecDepth 100000 in
theorem lifted (os : Os) (started : os.Started) (H : Type) (enc : TypeId × Value → H) (F : Stop.Interp) :
    ReturnsInHanded {} Tryd.checked os 4 .any ((OpenSpec.ofChange Rows.fixedBestSpec).preRow enc Tryd.prog Tryd.f4 Rows.fixedBestRow.domain false Rows.fixedBestRow.laid) (((OpenSpec.ofChange Rows.fixedBestSpec).at F).post enc Tryd.prog Tryd.f4 false true false false) := by
  obtain ⟨places, hx⟩ := reads os enc
  refine returnsInHanded_of_row (C := Tryd.checked) (s := OpenSpec.ofChange Rows.fixedBestSpec) Tryd.own started (by kernel_rfl) Tryd.func4
    (witness_row_at (enc := enc) (C := Tryd.checked) false (layIn (World.holding Tryd.prog os ⟨#[], #[], []⟩)) #[.slice none 0 0] rfl (by kernel_rfl) (by kernel_rfl) (by kernel_rfl)
      (OpenSpec.preRow_of_cond 8 hx (by kernel_rfl) (fun k hk => by cases hk) (by kernel_rfl) (laid_met os))) ?_
  intro W base args ds gs before hval hW _ hc hsz hL _ _
  exact contract H enc W base args ds gs before hval hW hsz hL

theorem said : Rows.FixedBestSaid :=
  OpenClaim.holds_of_cond 4 Tryd.f4 rfl rfl rfl rfl rfl rfl rfl ⟨rfl, rfl, rfl, rfl, rfl⟩ rfl rfl rfl rfl rfl (by kernel_rfl) Tryd.func4 (by kernel_rfl)
    (of_decide_eq_true (by kernel_rfl)) (by unfold Func.isWrapper; first | (rw [if_pos (by decide +kernel)]; kernel_rfl) | (rw [if_neg (by decide +kernel)]; exact ⟨rfl, rfl⟩))
    (fun os started H enc _ F => by rw [OpenClaim.pre_eq_preRow]; exact lifted os started H enc F)

theorem plain (f : FuncId) (fn : Func) (hf : Tryd.pinned.checked.prog.funcNamed Rows.fixedBestRow.func = some f) (hfn : Tryd.pinned.checked.prog.funcs[f]? = some fn) :
    false = Tryd.pinned.checked.prog.looks [] ∧ ∀ (j : Nat) t, fn.params[j]? = some t → Tryd.pinned.checked.prog.wantsStandIn t = false := by
  obtain rfl : f = 4 := Option.some.inj ((show Tryd.prog.funcNamed Rows.fixedBestRow.func = some 4 by kernel_rfl).symm.trans hf) |>.symm
  obtain rfl : fn = Tryd.f4 := (Option.some.inj (Tryd.func4.symm.trans hfn)).symm
  refine ⟨by kernel_rfl, fun j t ht => ?_⟩
  have hall : (Tryd.f4.params.toList.all fun u => !Tryd.prog.wantsStandIn u) = true := by kernel_rfl
  exact (show Tryd.prog.wantsStandIn t = false by simpa using List.all_eq_true.1 hall t (Array.mem_toList_iff.2 (Array.mem_of_getElem? ht)))

theorem card : Rows.FixedBestCardSaid :=
  Claim7.holds_tied_plain_at .later [] _ _ _ _ said (fun _ h => by cases h) (by kernel_rfl) (fun _ h => by cases h) fixedBest_row_tie rfl ⟨rfl, rfl⟩ (by kernel_rfl) rfl plain (by kernel_rfl)

end Go.Proofs.YtohimhojieeloabDoor.Best
namespace Go.Proofs.YtohimhojieeloabDoor
theorem fixedBest_card : Rows.FixedBestCardSaid := Best.card
end Go.Proofs.YtohimhojieeloabDoor
