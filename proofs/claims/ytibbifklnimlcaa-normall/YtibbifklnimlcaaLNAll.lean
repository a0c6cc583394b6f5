/-
  For every list of rows and every list of gains the statement NormAll answers true: awake does; Rows is the document's.
-/
import Derived.Test.YtibbifklnimlcaaNoh
import Derived.Test.YtibbifklnimlcaaNoe
import Derived.Test.YtibbifklnimlcaaNof
namespace Go.Proofs.Ytibbifklnimlcaa.All9
open Go.ChangeShapes Go.WideShapes Go.ChangeAt Go.RowKit Go.Lib Go.Maps

set_option maxHeartbeats 8000000 in
set_option maxRecDepth 100000 in
theorem walk (lv gv : Value) (L : List (List Int)) (gs : List Int) (w : World) (hl : LL .i64 (fun b => b < w.heap.size) w lv L) (hg : Rk .i8 (fun b => b < w.heap.size) w gv gs) :
    Calls Try.prog 5 #[lv, gv] w fun e w' => e = .returned (.bool true) ∧ Fresh w w' := by
  have HAW : Hid (∀ W : World, _) := fun (W : World) => awake_any W
  have HL : Hid (∀ W, Fresh w W → LL .i64 (fun b => b < w.heap.size) W lv L ∧ Rk .i8 (fun b => b < w.heap.size) W gv gs) := fun W hF => ⟨hl.fresh hF, hg.fresh hF⟩
  have H1 : Hid (Unit → _) := fun (_ : Unit) => Rows_any _ _ _ _ _ _ w hl hg
  have hmany := hl.many
  obtain ⟨ao, ac, rfl, _⟩ := hl.shape
  obtain ⟨bo, bc, rfl, _⟩ := hg.shape
  have HM : Hid (L.length * 24 ≤ 140737488351232) := hmany
  clear hl hg hmany
  go_enter Try.func5, Try.ntmps5
  go_wp2_with fail
  refine (H1.out ()).mono ?_
  rintro e w1 ⟨I, E, R, v1, rfl, hI, hO1, hF1⟩
  have H2 : Hid (Unit → _) := fun (_ : Unit) => refRows_any _ _ _ _ _ _ w1 (HL.out w1 hF1).1 (HL.out w1 hF1).2
  have HI : Hid (RaIs L gs I E R) := hI
  have HF1 : Hid (Fresh w w1) := hF1
  have hRl : R.length * 24 ≤ 140737488351232 := by have := HM.out; have := hI.small.1; omega
  have HL1 : Hid (LL .i8 (fun b => w.heap.size ≤ b ∧ b < w1.heap.size) w1 v1 R) := hO1.ll hRl hI.small.2
  clear H1 HL hI hO1 hF1 HM
  go_wp2_with fail
  refine (H2.out ()).mono ?_
  rintro e w2 ⟨I2, E2, R2, v2, rfl, hI, hO2, hF2⟩
  obtain ⟨e1, e2, e3⟩ := HI.out.unique hI
  subst e1
  subst e2
  subst e3
  have HF2 : Hid (Fresh w w2) := HF1.out.trans hF2 (fun _ _ e => e)
  have HL2 : Hid (∀ W, Fresh w2 W → LL .i8 (fun b => w.heap.size ≤ b ∧ b < w1.heap.size) W v1 R ∧ LL .i8 (fun b => w1.heap.size ≤ b ∧ b < w2.heap.size) W v2 R) := fun W hF => ⟨(HL1.out.fresh hF2).fresh hF, hO2.fresh hF⟩
  clear H2 HF1 hI hO2 hF2 HI HL1
  go_wp2_with fail
  refine (HAW.out _).mono ?_
  rintro e w3 ⟨rfl, hF3⟩
  have HF3 : Hid (Fresh w w3) := HF2.out.trans hF3 (fun _ _ e => e)
  obtain ⟨ha, hb⟩ := HL2.out w3 hF3
  clear hF3 HF2 HAW HL2
  obtain ⟨ao, ac, rfl, _⟩ := ha.shape
  obtain ⟨bo, bc, rfl, _⟩ := hb.shape
  have HCa : Hid _ := ha.stay
  have HCb : Hid _ := hb.stay
  clear ha hb
  generalize R.length = n at *
  go_wp2
  go_loopw [11] (fun i wr => ∃ j : Nat, j ≤ n ∧ i = zV j ∧ Hid (∃ d, wr = w3.drewN d)) (fun i _ => n - (RowKit.intOf i).toNat)
  case atStart => exact ⟨0, Nat.zero_le _, rfl, 0, rfl⟩
  case round =>
    obtain ⟨j, hj, rfl, HWr⟩ := hrel
    have hFr : Fresh w3 wr := by obtain ⟨d, h⟩ := HWr.out; rw [h]; exact kept_drewN _ _ _
    by_cases hlt : j < n
    · obtain ⟨ab, aoff, rfl, h1⟩ := HCa.out (by omega)
      obtain ⟨bb, boff, rfl, h2⟩ := HCb.out (by omega)
      obtain ⟨a1, l1, c1, g1, r1⟩ := h1 wr hFr j hlt
      obtain ⟨a2, l2, c2, g2, r2⟩ := h2 wr hFr j hlt
      have HS : Hid (∀ m, Calls Try.prog 15 #[.slice a1 l1 c1, .slice a2 l2 c2] (wr.drewN m) fun e w' => e = .returned (.bool true) ∧ ∃ n, w' = (wr.drewN m).drewN n) := fun m => rows_any _ _ _ _ _ _ (r1.fresh (kept_drewN _ _ _)) (r2.fresh (kept_drewN _ _ _))
      have hlt' : (j : Int) < (n : Int) := by omega
      clear h1 h2 HCa HCb r1 r2 hFr
      go_wp2_with fail
      go_quiet ((go_at_call 15; exact Calls.quiet_of (HS.out _)))
      go_wp2
      go_roundw
      case rel =>
        refine ⟨j + 1, hlt, by go_num, ?_⟩
        obtain ⟨d, h⟩ := HWr.out
        exact ⟨d + nq, by rw [h, World.drewN_drewN]⟩
      case measure => simp [RowKit.intOf]; omega
    · obtain rfl : j = n := by omega
      have HX : Hid (Fresh w wr) := HF3.out.trans hFr (fun _ _ e => e)
      clear HCa HCb hFr
      go_wp2
      go_ret
      exact ⟨rfl, HX.out⟩

set_option maxRecDepth 100000 in
theorem contract (H : Type) (enc : TypeId × Value → H) (W : World) (base : Nat) (args : Array Value) (ds gs : List (DataW H)) (before : List MemPlace)
    (hval : ∀ (j : Nat) t v, Try.f5.params[j]? = some t → args[j]? = some v → Value.okWide Try.prog W .any base t v)
    (hW : DataW.Whole enc Try.prog Try.f5.params.toList Rows.normAllSpec.vars false W args.toList ds gs before) 
    (hsz : (DataW.weightsEach Try.prog (Try.f5.params.toList ++ []) (ds ++ gs)).all (· ≤ reachBytes) = true) (hL : laidMetH Try.prog Rows.normAllRow.laid W) :
    Calls Try.prog 5 args W fun e W' => ∃ v, e = .returned v ∧ Rows.normAllSpec.post enc Try.prog Try.f5 false true false false W args v W' := by
  have hW' := hW
  obtain ⟨p, q, hA0, hV, rfl, hfz, hnd⟩ := hW
  have hA : DataW.TrodAll enc Try.prog W 0 (fun _ => true) true Try.f5.params.toList args.toList ds p := hA0
  rw [Try.params5] at hA hval hsz
  obtain ⟨rfl, rfl⟩ := trodVars_none hV
  have _hL := hL
  obtain ⟨v0, v1, d0, d1, p0, p1, rfl, rfl, rfl, h0, h1⟩ := trodAll_two hA
  obtain ⟨gs, hg⟩ := arg8 (hval 1 31 v1 rfl rfl) h1 hsz (j := 1) rfl rfl
  obtain ⟨ao, ln, cap, rfl⟩ := okWide_slice Try.underlying38 (hval 0 38 v0 rfl rfl)
  obtain ⟨f0, hf0⟩ := h0
  obtain ⟨L, hL0⟩ := ll_ofK ty64 tyL64 (by kernel_rfl) (x := (d0, _)) hf0 (fun es sp e => by
    have e' : d0 = .slice es sp := e
    subst e'
    have := sized_slice hsz (j := 0) (t := 38) (e := 22) rfl rfl Try.underlying38
    rw [show Try.prog.bytesOf 22 = 24 by kernel_rfl] at this
    simp only [reachBytes] at this
    refine ⟨by omega, fun e' sp' hm => ?_⟩
    have := sized_inner hsz (j := 0) (t := 38) (e := 22) (q := 2) rfl rfl Try.underlying38 Try.underlying22 hm
    rw [Try.b64] at this
    simp only [reachBytes] at this
    simp only [kb]
    omega)
  refine (walk _ v1 L gs W hL0 hg).mono fun e W' ⟨he, hk⟩ => ?_
  subst he
  exact ⟨_, rfl, post_law rfl (by kernel_rfl) (by kernel_rfl) hW' rfl hk⟩

set_option maxRecDepth 100000 in
theorem laid_met (os : Os) : laidMet Try.prog Rows.normAllRow.laid ((layIn (World.holding Try.prog os ⟨#[], #[], []⟩)).forCall (fun _ _ => 0) ⟨#[], #[.slice none 0 0, .slice none 0 0], []⟩).memory :=
  laidMet_of_run' 8 (by kernel_rfl) (by kernel_rfl)
set_option maxRecDepth 100000 in
theorem reads (os : Os) {H : Type} (enc : TypeId × Value → H) : ∃ places, DataW.whole enc Try.prog ((layIn (World.holding Try.prog os ⟨#[], #[], []⟩)).forCall (fun _ _ => 0) ⟨#[], #[.slice none 0 0, .slice none 0 0], []⟩).memory Try.f5.params.toList Rows.normAllSpec.vars false (#[.slice none 0 0, .slice none 0 0] : Array Value).toList 8 = some ([.nil, .nil], [], places) :=
  ⟨[], by kernel_rfl⟩

set_option maxRecDepth 100000 in
theorem lifted (os : Os) (started : os.Started) (H : Type) (enc : TypeId × Value → H) (F : Stop.Interp) :
    ReturnsInHanded {} Try.checked os 5 .any ((OpenSpec.ofChange Rows.normAllSpec).preRow enc Try.prog Try.f5 Rows.normAllRow.domain false Rows.normAllRow.laid) (((OpenSpec.ofChange Rows.normAllSpec).at F).post enc Try.prog Try.f5 false true false false) := by
  obtain ⟨places, hx⟩ := reads os enc
  refine returnsInHanded_of_row (C := Try.checked) (s := OpenSpec.ofChange Rows.normAllSpec) Try.own started (by kernel_rfl) Try.func5
    (witness_row_at (enc := enc) (C := Try.checked) false (layIn (World.holding Try.prog os ⟨#[], #[], []⟩)) #[.slice none 0 0, .slice none 0 0] rfl (by kernel_rfl) (by kernel_rfl) (by kernel_rfl)
      (OpenSpec.preRow_of_cond 8 hx (by kernel_rfl) (fun k hk => by cases hk) (by kernel_rfl) (laid_met os))) ?_
  intro W base args ds gs before hval hW _ hc hsz hL _ _
  exact contract H enc W base args ds gs before hval hW hsz hL

theorem said : Rows.NormAllSaid :=
  OpenClaim.holds_of_cond 5 Try.f5 rfl rfl rfl rfl rfl rfl rfl ⟨rfl, rfl, rfl, rfl, rfl⟩ rfl rfl rfl rfl rfl (by kernel_rfl) Try.func5 (by kernel_rfl)
    (of_decide_eq_true (by kernel_rfl)) (by unfold Func.isWrapper; first | (rw [if_pos (by decide +kernel)]; kernel_rfl) | (rw [if_neg (by decide +kernel)]; exact ⟨rfl, rfl⟩))
    (fun os started H enc _ F => by rw [OpenClaim.pre_eq_preRow]; exact lifted os started H enc F)


end Go.Proofs.Ytibbifklnimlcaa.All9
namespace Go.Proofs.Ytibbifklnimlcaa
theorem normAll_holds : Rows.NormAllSaid := All9.said
end Go.Proofs.Ytibbifklnimlcaa
