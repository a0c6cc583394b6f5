/-
  For every int64 x the statement FixedRoots answers true: awake does, Sqrt answers as the document says, and the root of a square is what was squared; its card, tied to the program's text.
-/
import Derived.Test.YtohimhojieeloaaDoorLay
import Derived.Test.YtohimhojieeloaaDoorSqr
namespace Go.Proofs.YtohimhojieeloaaDoor.Roots
open Go.ChangeShapes Go.WideShapes Go.ChangeAt Go.RowKit

theorem tail (n : Nat) (hn : n ≤ 3037000499) : ∃ N : Nat, N = n * n ∧ (n : Int) * (n : Int) = (N : Int) ∧ (-(n : Int)) * (-(n : Int)) = (N : Int) ∧ N ≤ 9223372030926249001 := by
  have := Nat.mul_le_mul hn hn
  exact ⟨n * n, rfl, by simp, by rw [Int.neg_mul_neg]; simp, by omega⟩

set_option maxHeartbeats 800000 in
theorem walk (x : Int) (w : World) (hB : Bend w) (hx : I64 x) :
    Calls Tryd.prog 6 #[.int .i64 x] w fun e w' => e = .returned (.bool true) ∧ Fresh w w' := by
  obtain ⟨m0, m1⟩ := tmod_bounds x 3037000500 (by omega)
  obtain ⟨n, hn⟩ : ∃ n : Nat, x.tmod 3037000500 = n ∨ (x.tmod 3037000500 < 0 ∧ x.tmod 3037000500 = -(n : Int)) := ⟨(x.tmod 3037000500).natAbs, by omega⟩
  obtain ⟨N, hN, hs1, hs2, hNb⟩ := tail n (by omega)
  have hrt : Root N n := by
    refine ⟨by omega, ?_⟩
    rw [hN, Nat.mul_add, Nat.add_mul]; omega
  have HR : Hid (Root N n) := hrt
  clear hrt hN
  have hg := fun w => sqrt_ok N w (by omega)
  go_enter Tryd.func6, Tryd.ntmps6
  go_wp2_with fail
  refine (awake_any _ hB).mono ?_
  rintro e w1 ⟨rfl, h1⟩
  go_wp2_with fail
  refine (sqrt_any _ _ hx).mono ?_
  rintro e w2 ⟨r, rfl, hr, h2⟩
  go_wp2_with fail
  refine (refSqrt_any _ _ hx).mono ?_
  rintro e w3 ⟨s, rfl, hr', h3⟩
  obtain rfl := hr.unique hr'
  clear hr hr'
  have HK : Hid (Fresh w w3) := h1.trans (h2.trans h3).fresh (fun _ _ e => e)
  clear h1 h2 h3
  rcases hn with hn | ⟨hn, hn'⟩
  · go_wp2_with fail
    refine (hg _).mono ?_
    rintro e w4 ⟨r, rfl, hr, h4⟩
    obtain rfl := root_unique hr HR.out
    go_wp2
    go_ret
    exact ⟨rfl, HK.out.trans h4.fresh (fun _ _ e => e)⟩
  · go_wp2_with fail
    refine (hg _).mono ?_
    rintro e w4 ⟨r, rfl, hr, h4⟩
    obtain rfl := root_unique hr HR.out
    go_wp2
    go_ret
    exact ⟨rfl, HK.out.trans h4.fresh (fun _ _ e => e)⟩

theorem contract (H : Type) (enc : TypeId × Value → H) (W : World) (base : Nat) (args : Array Value) (ds gs : List (DataW H)) (before : List MemPlace)
    (hval : ∀ (j : Nat) t v, Tryd.f6.params[j]? = some t → args[j]? = some v → Value.okWide Tryd.prog W .any base t v)
    (hW : DataW.Whole enc Tryd.prog Tryd.f6.params.toList Rows.fixedRootsSpec.vars false W args.toList ds gs before) 
    (hsz : (DataW.weightsEach Tryd.prog (Tryd.f6.params.toList ++ []) (ds ++ gs)).all (· ≤ reachBytes) = true) (hL : laidMetH Tryd.prog Rows.fixedRootsRow.laid W) :
    Calls Tryd.prog 6 args W fun e W' => ∃ v, e = .returned v ∧ Rows.fixedRootsSpec.post enc Tryd.prog Tryd.f6 false true false false W args v W' := by
  have hW' := hW
  obtain ⟨p, q, hA0, hV, rfl, hfz, hnd⟩ := hW
  have hA : DataW.TrodAll enc Tryd.prog W 0 (fun _ => true) true Tryd.f6.params.toList args.toList ds p := hA0
  rw [Tryd.params6] at hA hval hsz
  obtain ⟨rfl, rfl⟩ := trodVars_none hV
  obtain ⟨v0, d0, rfl, rfl, h0⟩ := trodAll_one hA
  obtain ⟨x0, rfl, rfl, rfl, w0⟩ := open_int Tryd.underlying2 (hval 0 2 v0 rfl rfl) h0
  refine (walk x0 W (bend_of_laid hL) (i64_of w0)).mono fun e W' ⟨he, hk⟩ => ?_
  subst he
  exact ⟨_, rfl, post_law rfl (by kernel_rfl) (by kernel_rfl) hW' rfl hk⟩

theorem laid_met (os : Os) : laidMet Tryd.prog Rows.fixedRootsRow.laid ((layIn (World.holding Tryd.prog os ⟨#[], #[], []⟩)).forCall (fun _ _ => 0) ⟨#[], #[.int .i64 0], []⟩).memory :=
  laidMet_of_run' 8 (by kernel_rfl) (by kernel_rfl)
theorem reads (os : Os) {H : Type} (enc : TypeId × Value → H) : ∃ places, DataW.whole enc Tryd.prog ((layIn (World.holding Tryd.prog os ⟨#[], #[], []⟩)).forCall (fun _ _ => 0) ⟨#[], #[.int .i64 0], []⟩).memory Tryd.f6.params.toList Rows.fixedRootsSpec.vars false (#[.int .i64 0] : Array Value).toList 8 = some ([.lit (.int .i64 0)], [], places) :=
  ⟨[], by kernel_rfl⟩

set_option maxRecDepth 100000 in
theorem lifted (os : Os) (started : os.Started) (H : Type) (enc : TypeId × Value → H) (F : Stop.Interp) :
    ReturnsInHanded {} Tryd.checked os 6 .any ((OpenSpec.ofChange Rows.fixedRootsSpec).preRow enc Tryd.prog Tryd.f6 Rows.fixedRootsRow.domain false Rows.fixedRootsRow.laid) (((OpenSpec.ofChange Rows.fixedRootsSpec).at F).post enc Tryd.prog Tryd.f6 false true false false) := by
  obtain ⟨places, hx⟩ := reads os enc
  refine returnsInHanded_of_row (C := Tryd.checked) (s := OpenSpec.ofChange Rows.fixedRootsSpec) Tryd.own started (by kernel_rfl) Tryd.func6
    (witness_row_at (enc := enc) (C := Tryd.checked) false (layIn (World.holding Tryd.prog os ⟨#[], #[], []⟩)) #[.int .i64 0] rfl (by kernel_rfl) (by kernel_rfl) (by kernel_rfl)
      (OpenSpec.preRow_of_cond 8 hx (by kernel_rfl) (fun k hk => by cases hk) (by kernel_rfl) (laid_met os))) ?_
  intro W base args ds gs before hval hW _ hc hsz hL _ _
  exact contract H enc W base args ds gs before hval hW hsz hL

theorem said : Rows.FixedRootsSaid :=
  OpenClaim.holds_of_cond 6 Tryd.f6 rfl rfl rfl rfl rfl rfl rfl ⟨rfl, rfl, rfl, rfl, rfl⟩ rfl rfl rfl rfl rfl (by kernel_rfl) Tryd.func6 (by kernel_rfl)
    (of_decide_eq_true (by kernel_rfl)) (by unfold Func.isWrapper; first | (rw [if_pos (by decide +kernel)]; kernel_rfl) | (rw [if_neg (by decide +kernel)]; exact ⟨rfl, rfl⟩))
    (fun os started H enc _ F => by rw [OpenClaim.pre_eq_preRow]; exact lifted os started H enc F)

theorem plain (f : FuncId) (fn : Func) (hf : Tryd.pinned.checked.prog.funcNamed Rows.fixedRootsRow.func = some f) (hfn : Tryd.pinned.checked.prog.funcs[f]? = some fn) :
    false = Tryd.pinned.checked.prog.looks [] ∧ ∀ (j : Nat) t, fn.params[j]? = some t → Tryd.pinned.checked.prog.wantsStandIn t = false := by
  obtain rfl : f = 6 := Option.some.inj ((show Tryd.prog.funcNamed Rows.fixedRootsRow.func = some 6 by kernel_rfl).symm.trans hf) |>.symm
  obtain rfl : fn = Tryd.f6 := (Option.some.inj (Tryd.func6.symm.trans hfn)).symm
  refine ⟨by kernel_rfl, fun j t ht => ?_⟩
  have hall : (Tryd.f6.params.toList.all fun u => !Tryd.prog.wantsStandIn u) = true := by kernel_rfl
  exact (show Tryd.prog.wantsStandIn t = false by simpa using List.all_eq_true.1 hall t (Array.mem_toList_iff.2 (Array.mem_of_getElem? ht)))

theorem card : Rows.FixedRootsCardSaid :=
  Claim7.holds_tied_plain_at .later [] _ _ _ _ said (fun _ h => by cases h) (by kernel_rfl) (fun _ h => by cases h) fixedRoots_row_tie rfl ⟨rfl, rfl⟩ (by kernel_rfl) rfl plain (by kernel_rfl)

end Go.Proofs.YtohimhojieeloaaDoor.Roots
namespace Go.Proofs.YtohimhojieeloaaDoor
theorem fixedRoots_card : Rows.FixedRootsCardSaid := Roots.card
end Go.Proofs.YtohimhojieeloaaDoor
