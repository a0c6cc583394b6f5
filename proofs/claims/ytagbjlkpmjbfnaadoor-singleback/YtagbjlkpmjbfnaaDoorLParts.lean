/-
  For all bits b the statement SingleParts answers true: awake does, and Parts answers as the document says; its card, tied to the program's text.
-/
import Derived.Test.YtagbjlkpmjbfnaaDoorPa
import Derived.Test.YtagbjlkpmjbfnaaDoorPtR
namespace Go.Proofs.YtagbjlkpmjbfnaaDoor.LParts
open Go.ChangeShapes Go.WideShapes Go.ChangeAt Go.RowKit Ieee

/-- The blocks of two structs that were just made. -/
theorem two_new (w : World) (o1 o2 : Obj) : ((w.alloc o1).alloc o2).heap[w.heap.size]? = some o1 ∧ ((w.alloc o1).alloc o2).heap[w.heap.size + 1]? = some o2 := by
  refine ⟨(Below.heap_alloc _ _ _ (by simp)).trans (heap_alloc_new _ _), ?_⟩
  have hn := heap_alloc_new (w.alloc o1) o2
  rwa [show (w.alloc o1).heap.size = w.heap.size + 1 by simp] at hn

set_option maxHeartbeats 1600000 in
theorem walk (b : Nat) (w : World) (hS : Sing w) (hT : Tab w) (hb : b < 4294967296) :
    Calls Tryd.prog 3 #[.int .u32 b] w fun r w' => r = .returned (.bool true) ∧ Fresh w w' := by
  have H1 := show Hid _ from fun X (hX : Sing X) (hY : Tab X) => Parts_any b X hX hY hb
  have H2 := show Hid _ from fun X => refParts_any b X hb
  obtain ⟨P, hP⟩ : ∃ P, ptOf (single.read b) = P := ⟨_, rfl⟩
  rw [hP] at H1 H2
  clear hP
  obtain ⟨K, N, M, E⟩ := P
  unfold Pt.val at H1 H2
  go_enter Tryd.func3, Tryd.ntmps3
  go_wp2_with fail
  refine (H1.out _ hS hT).mono ?_
  rintro r w1 ⟨rfl, h1⟩
  go_wp2_with fail
  refine (H2.out _).mono ?_
  rintro r w2 ⟨rfl, h2⟩
  have h12 := h1.trans h2 (fun _ _ e => e)
  go_wp2_with fail
  have hF := (h12.alloc (.cells #[.int .i64 K, .bool N, .int .i64 (M : Int), .int .i64 E] 24)).alloc (.cells #[.int .i64 K, .bool N, .int .i64 (M : Int), .int .i64 E] 26)
  obtain ⟨k1, k2⟩ := two_new w2 (.cells #[.int .i64 K, .bool N, .int .i64 (M : Int), .int .i64 E] 24) (.cells #[.int .i64 K, .bool N, .int .i64 (M : Int), .int .i64 E] 26)
  refine (awake_any _ (hS.fresh hF)).mono ?_
  rintro r Z ⟨rfl, hZ⟩
  obtain ⟨⟨r0, r1, r2, r3⟩, -⟩ := cells4 (hZ.at k1 (fun e => e))
  obtain ⟨⟨t0, t1, t2, t3⟩, -⟩ := cells4 (hZ.at k2 (fun e => e))
  clear k1 k2
  go_wp2
  go_ret
  exact ⟨by simp, hF.trans hZ (fun _ _ e => e)⟩

theorem contract (H : Type) (enc : TypeId × Value → H) (W : World) (base : Nat) (args : Array Value) (ds gs : List (DataW H)) (before : List MemPlace)
    (hval : ∀ (j : Nat) t v, Tryd.f3.params[j]? = some t → args[j]? = some v → Value.okWide Tryd.prog W .any base t v)
    (hW : DataW.Whole enc Tryd.prog Tryd.f3.params.toList Rows.singlePartsSpec.vars false W args.toList ds gs before) 
    (hsz : (DataW.weightsEach Tryd.prog (Tryd.f3.params.toList ++ []) (ds ++ gs)).all (· ≤ reachBytes) = true) (hL : laidMetH Tryd.prog Rows.singlePartsRow.laid W) :
    Calls Tryd.prog 3 args W fun e W' => ∃ v, e = .returned v ∧ Rows.singlePartsSpec.post enc Tryd.prog Tryd.f3 false true false false W args v W' := by
  have hW' := hW
  obtain ⟨p, q, hA0, hV, rfl, hfz, hnd⟩ := hW
  have hA : DataW.TrodAll enc Tryd.prog W 0 (fun _ => true) true Tryd.f3.params.toList args.toList ds p := hA0
  rw [Tryd.params3] at hA hval hsz
  obtain ⟨rfl, rfl⟩ := trodVars_none hV
  obtain ⟨v0, d0, rfl, rfl, h0⟩ := trodAll_one hA
  obtain ⟨x0, rfl, rfl, rfl, w0⟩ := open_int Tryd.underlying22 (hval 0 22 v0 rfl rfl) h0
  obtain ⟨a, rfl, ha⟩ := u32_of w0
  refine (walk a W (sing_of_laid hL (by simp [Rows.singlePartsRow])) (tab_of_laid hL) ha).mono fun e W' ⟨he, hk⟩ => ?_
  subst he
  exact ⟨_, rfl, post_law rfl (by kernel_rfl) (by kernel_rfl) hW' rfl hk⟩

theorem laid_met (os : Os) : laidMet Tryd.prog Rows.singlePartsRow.laid ((layIn (World.holding Tryd.prog os ⟨#[], #[], []⟩)).forCall (fun _ _ => 0) ⟨#[], #[.int .u32 0], []⟩).memory :=
  laidMet_of_run' 8 (by kernel_rfl) (by kernel_rfl)
theorem reads (os : Os) {H : Type} (enc : TypeId × Value → H) : ∃ places, DataW.whole enc Tryd.prog ((layIn (World.holding Tryd.prog os ⟨#[], #[], []⟩)).forCall (fun _ _ => 0) ⟨#[], #[.int .u32 0], []⟩).memory Tryd.f3.params.toList Rows.singlePartsSpec.vars false (#[.int .u32 0] : Array Value).toList 8 = some ([.lit (.int .u32 0)], [], places) :=
  ⟨[], by kernel_rfl⟩

set_option maxRecDepth 100000 in
theorem lifted (os : Os) (started : os.Started) (H : Type) (enc : TypeId × Value → H) (F : Stop.Interp) :
    ReturnsInHanded {} Tryd.checked os 3 .any ((OpenSpec.ofChange Rows.singlePartsSpec).preRow enc Tryd.prog Tryd.f3 Rows.singlePartsRow.domain false Rows.singlePartsRow.laid) (((OpenSpec.ofChange Rows.singlePartsSpec).at F).post enc Tryd.prog Tryd.f3 false true false false) := by
  obtain ⟨places, hx⟩ := reads os enc
  refine returnsInHanded_of_row (C := Tryd.checked) (s := OpenSpec.ofChange Rows.singlePartsSpec) Tryd.own started (by kernel_rfl) Tryd.func3
    (witness_row_at (enc := enc) (C := Tryd.checked) false (layIn (World.holding Tryd.prog os ⟨#[], #[], []⟩)) #[.int .u32 0] rfl (by kernel_rfl) (by kernel_rfl) (by kernel_rfl)
      (OpenSpec.preRow_of_cond 8 hx (by kernel_rfl) (fun k hk => by cases hk) (by kernel_rfl) (laid_met os))) ?_
  intro W base args ds gs before hval hW _ hc hsz hL _ _
  exact contract H enc W base args ds gs before hval hW hsz hL

theorem said : Rows.SinglePartsSaid :=
  OpenClaim.holds_of_cond 3 Tryd.f3 rfl rfl rfl rfl rfl rfl rfl ⟨rfl, rfl, rfl, rfl, rfl⟩ rfl rfl rfl rfl rfl (by kernel_rfl) Tryd.func3 (by kernel_rfl)
    (of_decide_eq_true (by kernel_rfl)) (by unfold Func.isWrapper; first | (rw [if_pos (by decide +kernel)]; kernel_rfl) | (rw [if_neg (by decide +kernel)]; exact ⟨rfl, rfl⟩))
    (fun os started H enc _ F => by rw [OpenClaim.pre_eq_preRow]; exact lifted os started H enc F)

theorem plain (f : FuncId) (fn : Func) (hf : Tryd.pinned.checked.prog.funcNamed Rows.singlePartsRow.func = some f) (hfn : Tryd.pinned.checked.prog.funcs[f]? = some fn) :
    false = Tryd.pinned.checked.prog.looks [] ∧ ∀ (j : Nat) t, fn.params[j]? = some t → Tryd.pinned.checked.prog.wantsStandIn t = false := by
  obtain rfl : f = 3 := Option.some.inj ((show Tryd.prog.funcNamed Rows.singlePartsRow.func = some 3 by kernel_rfl).symm.trans hf) |>.symm
  obtain rfl : fn = Tryd.f3 := (Option.some.inj (Tryd.func3.symm.trans hfn)).symm
  refine ⟨by kernel_rfl, fun j t ht => ?_⟩
  have hall : (Tryd.f3.params.toList.all fun u => !Tryd.prog.wantsStandIn u) = true := by kernel_rfl
  exact (show Tryd.prog.wantsStandIn t = false by simpa using List.all_eq_true.1 hall t (Array.mem_toList_iff.2 (Array.mem_of_getElem? ht)))

theorem card : Rows.SinglePartsCardSaid :=
  Claim7.holds_tied_plain_at .later [] _ _ _ _ said (fun _ h => by cases h) (by kernel_rfl) (fun _ h => by cases h) singleParts_row_tie rfl ⟨rfl, rfl⟩ (by kernel_rfl) rfl plain (by kernel_rfl)

end Go.Proofs.YtagbjlkpmjbfnaaDoor.LParts
namespace Go.Proofs.YtagbjlkpmjbfnaaDoor
theorem singleParts_card : Rows.SinglePartsCardSaid := LParts.card
end Go.Proofs.YtagbjlkpmjbfnaaDoor
