/-
  For every row the statement NormRoots answers true: awake does; Root is the document's; the row stays as it is.
-/
import Derived.Test.YtibbifklnimlcaaNoc
import Derived.Test.YtibbifklnimlcaaNoi
import Derived.Test.YtibbifklnimlcaaNoe
import Derived.Test.YtibbifklnimlcaaNof
namespace Go.Proofs.Ytibbifklnimlcaa.Roots9
open Go.ChangeShapes Go.WideShapes Go.ChangeAt Go.RowKit Go.Lib Go.Maps

set_option maxHeartbeats 8000000 in
set_option maxRecDepth 100000 in
theorem walk (lv : Value) (zs : List Int) (w : World) (hl : Rk .i64 (fun b => b < w.heap.size) w lv zs) :
    Calls Try.prog 3 #[lv] w fun e w' => e = .returned (.bool true) ∧ Fresh w w' := by
  have HAW : Hid (∀ W : World, _) := fun (W : World) => awake_any W
  obtain ⟨t, W1, hr1, hF1, hR1⟩ := copy_of ty64 hl
  have HL : Hid (∀ W, Fresh W1 W → Rk .i64 (fun b => b < w.heap.size) W lv zs ∧ Rk .i64 (fun b => w.heap.size ≤ b ∧ b < W1.heap.size) W t zs) := fun W hF => ⟨hl.fresh (hF1.trans hF (fun _ _ e => e)), hR1.fresh hF⟩
  have H1 : Hid (Unit → _) := fun (_ : Unit) => Root_any _ _ _ W1 (HL.out W1 (Kept.refl _ _)).1
  have HF1 : Hid (Fresh w W1) := hF1
  obtain ⟨ao, ac, rfl, _⟩ := hl.shape
  obtain ⟨bo, bc, rfl, _⟩ := hR1.shape
  clear hl hR1 hF1
  go_enter Try.func3, Try.ntmps3
  go_wp2_with (at_builtin; refine Lib.wpList_append_run _ rfl _ _ _ _ rfl _ _ rfl rfl _ _ hr1 ?_)
  refine (H1.out ()).mono ?_
  rintro e w2 ⟨rfl, hd⟩
  have HF2 : Hid (Fresh W1 w2) := hd.fresh
  have H2 : Hid (Unit → _) := fun (_ : Unit) => refRoot_any _ _ _ w2 (HL.out w2 hd.fresh).2
  clear H1 hd hr1
  go_wp2_with fail
  refine (H2.out ()).mono ?_
  rintro e w3 ⟨rfl, hd⟩
  have HF3 : Hid (Fresh W1 w3) := HF2.out.trans hd.fresh (fun _ _ e => e)
  clear H2 hd HF2
  go_wp2_with fail
  refine (HAW.out _).mono ?_
  rintro e w4 ⟨rfl, hF4⟩
  have HF4 : Hid (Fresh W1 w4) := HF3.out.trans hF4 (fun _ _ e => e)
  have H4 : Hid (Unit → _) := fun (_ : Unit) => longs_any _ _ _ _ zs w4 (HL.out w4 HF4.out).1 (HL.out w4 HF4.out).2
  clear hF4 HF3 HAW HL
  generalize rV zs = V at *
  generalize nE zs = E at *
  go_wp2_with fail
  refine (H4.out ()).mono ?_
  rintro e w5 ⟨rfl, n5, hw5⟩
  have HF5 : Hid (Fresh w w5) := by show Fresh _ _; rw [hw5]; exact HF1.out.trans (HF4.out.drewN n5) (fun _ _ e => e)
  clear hw5 H4 HF4
  go_wp2
  go_ret
  exact ⟨by simp, HF5.out⟩

set_option maxRecDepth 100000 in
theorem contract (H : Type) (enc : TypeId × Value → H) (W : World) (base : Nat) (args : Array Value) (ds gs : List (DataW H)) (before : List MemPlace)
    (hval : ∀ (j : Nat) t v, Try.f3.params[j]? = some t → args[j]? = some v → Value.okWide Try.prog W .any base t v)
    (hW : DataW.Whole enc Try.prog Try.f3.params.toList Rows.normRootsSpec.vars false W args.toList ds gs before) 
    (hsz : (DataW.weightsEach Try.prog (Try.f3.params.toList ++ []) (ds ++ gs)).all (· ≤ reachBytes) = true) (hL : laidMetH Try.prog Rows.normRootsRow.laid W) :
    Calls Try.prog 3 args W fun e W' => ∃ v, e = .returned v ∧ Rows.normRootsSpec.post enc Try.prog Try.f3 false true false false W args v W' := by
  have hW' := hW
  obtain ⟨p, q, hA0, hV, rfl, hfz, hnd⟩ := hW
  have hA : DataW.TrodAll enc Try.prog W 0 (fun _ => true) true Try.f3.params.toList args.toList ds p := hA0
  rw [Try.params3] at hA hval hsz
  obtain ⟨rfl, rfl⟩ := trodVars_none hV
  have _hL := hL
  obtain ⟨v0, d0, rfl, rfl, h0⟩ := trodAll_one hA
  obtain ⟨zs, hz⟩ := arg64 (hval 0 22 v0 rfl rfl) h0 hsz (j := 0) rfl rfl
  refine (walk v0 zs W hz).mono fun e W' ⟨he, hk⟩ => ?_
  subst he
  exact ⟨_, rfl, post_law rfl (by kernel_rfl) (by kernel_rfl) hW' rfl hk⟩

set_option maxRecDepth 100000 in
theorem laid_met (os : Os) : laidMet Try.prog Rows.normRootsRow.laid ((layIn (World.holding Try.prog os ⟨#[], #[], []⟩)).forCall (fun _ _ => 0) ⟨#[], #[.slice none 0 0], []⟩).memory :=
  laidMet_of_run' 8 (by kernel_rfl) (by kernel_rfl)
set_option maxRecDepth 100000 in
theorem reads (os : Os) {H : Type} (enc : TypeId × Value → H) : ∃ places, DataW.whole enc Try.prog ((layIn (World.holding Try.prog os ⟨#[], #[], []⟩)).forCall (fun _ _ => 0) ⟨#[], #[.slice none 0 0], []⟩).memory Try.f3.params.toList Rows.normRootsSpec.vars false (#[.slice none 0 0] : Array Value).toList 8 = some ([.nil], [], places) :=
  ⟨[], by kernel_rfl⟩

set_option maxRecDepth 100000 in
theorem lifted (os : Os) (started : os.Started) (H : Type) (enc : TypeId × Value → H) (F : Stop.Interp) :
    ReturnsInHanded {} Try.checked os 3 .any ((OpenSpec.ofChange Rows.normRootsSpec).preRow enc Try.prog Try.f3 Rows.normRootsRow.domain false Rows.normRootsRow.laid) (((OpenSpec.ofChange Rows.normRootsSpec).at F).post enc Try.prog Try.f3 false true false false) := by
  obtain ⟨places, hx⟩ := reads os enc
  refine returnsInHanded_of_row (C := Try.checked) (s := OpenSpec.ofChange Rows.normRootsSpec) Try.own started (by kernel_rfl) Try.func3
    (witness_row_at (enc := enc) (C := Try.checked) false (layIn (World.holding Try.prog os ⟨#[], #[], []⟩)) #[.slice none 0 0] rfl (by kernel_rfl) (by kernel_rfl) (by kernel_rfl)
      (OpenSpec.preRow_of_cond 8 hx (by kernel_rfl) (fun k hk => by cases hk) (by kernel_rfl) (laid_met os))) ?_
  intro W base args ds gs before hval hW _ hc hsz hL _ _
  exact contract H enc W base args ds gs before hval hW hsz hL

theorem said : Rows.NormRootsSaid :=
  OpenClaim.holds_of_cond 3 Try.f3 rfl rfl rfl rfl rfl rfl rfl ⟨rfl, rfl, rfl, rfl, rfl⟩ rfl rfl rfl rfl rfl (by kernel_rfl) Try.func3 (by kernel_rfl)
    (of_decide_eq_true (by kernel_rfl)) (by unfold Func.isWrapper; first | (rw [if_pos (by decide +kernel)]; kernel_rfl) | (rw [if_neg (by decide +kernel)]; exact ⟨rfl, rfl⟩))
    (fun os started H enc _ F => by rw [OpenClaim.pre_eq_preRow]; exact lifted os started H enc F)


end Go.Proofs.Ytibbifklnimlcaa.Roots9
namespace Go.Proofs.Ytibbifklnimlcaa
theorem normRoots_holds : Rows.NormRootsSaid := Roots9.said
end Go.Proofs.Ytibbifklnimlcaa
