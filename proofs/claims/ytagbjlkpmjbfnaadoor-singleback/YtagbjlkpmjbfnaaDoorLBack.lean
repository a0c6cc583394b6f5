/-
  For all bits b the statement SingleBack answers true: awake does, and a finite single is the one nearest to its own parts; its card, tied to the program's text.
-/
import Derived.Test.YtagbjlkpmjbfnaaDoorLParts
namespace Go.Proofs.YtagbjlkpmjbfnaaDoor.LBack
open Go.ChangeShapes Go.WideShapes Go.ChangeAt Go.RowKit Ieee

/-- Near of the parts of a finite one that is not 0 is it. -/
theorem near_parts (b : Nat) (hb : b < 4294967296) (k : bE b ≠ 255) (h0 : mt b ≠ 0) :
    nearB (if bN b then -((mt b / 2 ^ tz (mt b) : Nat) : Int) else ((mt b / 2 ^ tz (mt b) : Nat) : Int)) (ex b + tz (mt b)) = b := by
  have hm := mt_lt b
  have hr := rung_pt single (mt b) (ex b) h0 (by omega)
  have hd := tz_div h0 (show mt b < 4294967296 by omega)
  have hp : 0 < mt b / 2 ^ tz (mt b) := by
    apply Nat.pos_of_ne_zero
    intro h
    rw [h, Nat.zero_mul] at hd
    omega
  have hn := nearest_back b hb k
  rw [nearest_rung] at hn
  unfold nearB
  rw [nearest_rung]
  generalize mt b / 2 ^ tz (mt b) = Q at *
  cases hN : bN b
  · rw [hN] at hn
    simp only [Bool.false_eq_true, if_false]
    rw [decide_eq_false (by omega), show ((Q : Nat) : Int).natAbs = Q by omega, hr]
    exact hn
  · rw [hN] at hn
    simp only [if_true]
    rw [decide_eq_true (by omega), show (-((Q : Nat) : Int)).natAbs = Q by omega, hr]
    exact hn

theorem one_new (w : World) (o : Obj) : (w.alloc o).heap[w.heap.size]? = some o := heap_alloc_new _ _

set_option maxHeartbeats 1600000 in
/-- The four parts are those of a number, or there is none. -/
theorem walk_not (b : Nat) (w : World) (hS : Sing w) (hT : Tab w) (hb : b < 4294967296) (K : Int) (N : Bool) (hP : ptOf (single.read b) = ⟨K, N, 0, 0⟩) (hK : 0 ≤ K ∧ K ≤ 2) :
    Calls Tryd.prog 8 #[.int .u32 b] w fun r w' => r = .returned (.bool true) ∧ Fresh w w' := by
  have H1 := show Hid _ from fun X (hX : Sing X) (hY : Tab X) => Parts_any b X hX hY hb
  have H2 := show Hid _ from fun X => refParts_any b X hb
  rw [hP] at H1 H2
  clear hP
  unfold Pt.val at H1 H2
  dsimp only at H1 H2
  rw [show ((0 : Nat) : Int) = 0 from rfl] at H1 H2
  have hk : K = 0 ∨ K = 1 ∨ K = 2 := by omega
  clear hK
  rcases hk with rfl | rfl | rfl <;> cases N
  all_goals
    go_enter Tryd.func8, Tryd.ntmps8
    go_wp2_with fail
    refine (H1.out _ hS hT).mono ?_
    rintro r w1 ⟨rfl, h1⟩
    go_wp2_with fail
    refine (H2.out _).mono ?_
    rintro r w2 ⟨rfl, h2⟩
    have k1 := h2.at (one_new w1 _) (fun e => e)
    have hF2 := (h1.alloc _).trans h2 (fun _ _ e => e)
    go_wp2_with fail
    refine (awake_any _ (hS.fresh (hF2.alloc _))).mono ?_
    rintro r Z ⟨rfl, hZ⟩
    obtain ⟨⟨r0, r1, r2, r3⟩, -⟩ := cells4 (hZ.at ((Below.heap_alloc _ _ _ (lt_of_heap k1)).trans k1) (fun e => e))
    obtain ⟨⟨t0, t1, t2, t3⟩, -⟩ := cells4 (hZ.at (one_new w2 _) (fun e => e))
    clear k1
    go_wp2
    go_ret
    exact ⟨by simp, (hF2.alloc _).trans hZ (fun _ _ e => e)⟩

set_option maxHeartbeats 1600000 in
theorem walk_num (b : Nat) (w : World) (hS : Sing w) (hT : Tab w) (hb : b < 4294967296) (k : bE b ≠ 255) (h0 : mt b ≠ 0) :
    Calls Tryd.prog 8 #[.int .u32 b] w fun r w' => r = .returned (.bool true) ∧ Fresh w w' := by
  have H1 := show Hid _ from fun X (hX : Sing X) (hY : Tab X) => Parts_any b X hX hY hb
  have H2 := show Hid _ from fun X => refParts_any b X hb
  have hP : ptOf (single.read b) = ⟨0, bN b, mt b / 2 ^ tz (mt b), ex b + tz (mt b)⟩ := by
    rw [read_fin b hb k]; unfold ptOf; dsimp only; rw [if_neg h0]
  have hnear := near_parts b hb k h0
  have hm := mt_lt b
  have hle : mt b / 2 ^ tz (mt b) ≤ mt b := Nat.div_le_self _ _
  have hd := tz_div h0 (show mt b < 4294967296 by omega)
  have hpos : mt b / 2 ^ tz (mt b) ≠ 0 := by
    intro h
    rw [h, Nat.zero_mul] at hd
    omega
  rw [hP] at H1 H2
  unfold Pt.val at H1 H2
  dsimp only at H1 H2
  clear hP hd
  generalize mt b / 2 ^ tz (mt b) = Q at *
  generalize ex b + (tz (mt b) : Int) = E at *
  generalize bN b = N at *
  have hQ' : ((Q : Int) == 0) = false := by simp; omega
  have hNr : ∀ X, Sing X → Calls Tryd.prog 12 #[.int .i64 (if N then -(Q : Int) else (Q : Int)), .int .i64 E] X fun r w' => r = .returned (.int .u32 b) ∧ Fresh X w' := fun X hX => by
    have := Near_any (if N then -(Q : Int) else (Q : Int)) E X hX (by split <;> omega) (by split <;> omega)
    rw [hnear] at this
    exact this
  clear hnear
  cases N
  · have HN : Hid (∀ X, Sing X → Calls Tryd.prog 12 #[.int .i64 (Q : Int), .int .i64 E] X fun r w' => r = .returned (.int .u32 b) ∧ Fresh X w') := hNr
    clear hNr
    go_enter Tryd.func8, Tryd.ntmps8
    go_wp2_with fail
    refine (H1.out _ hS hT).mono ?_
    rintro r w1 ⟨rfl, h1⟩
    go_wp2_with fail
    refine (H2.out _).mono ?_
    rintro r w2 ⟨rfl, h2⟩
    have k1 := h2.at (one_new w1 _) (fun e => e)
    have hF2 := (h1.alloc _).trans h2 (fun _ _ e => e)
    go_wp2_with fail
    refine (awake_any _ (hS.fresh (hF2.alloc _))).mono ?_
    rintro r Z ⟨rfl, hZ⟩
    obtain ⟨⟨r0, r1, r2, r3⟩, -⟩ := cells4 (hZ.at ((Below.heap_alloc _ _ _ (lt_of_heap k1)).trans k1) (fun e => e))
    have hFZ := (hF2.alloc _).trans hZ (fun _ _ e => e)
    clear k1
    go_wp2_with fail
    refine (HN.out _ (hS.fresh hFZ)).mono ?_
    rintro r Y ⟨rfl, hY⟩
    go_wp2
    go_ret
    exact ⟨by simp, hFZ.trans hY (fun _ _ e => e)⟩
  · have HN : Hid (∀ X, Sing X → Calls Tryd.prog 12 #[.int .i64 (-(Q : Int)), .int .i64 E] X fun r w' => r = .returned (.int .u32 b) ∧ Fresh X w') := hNr
    clear hNr
    go_enter Tryd.func8, Tryd.ntmps8
    go_wp2_with fail
    refine (H1.out _ hS hT).mono ?_
    rintro r w1 ⟨rfl, h1⟩
    go_wp2_with fail
    refine (H2.out _).mono ?_
    rintro r w2 ⟨rfl, h2⟩
    have k1 := h2.at (one_new w1 _) (fun e => e)
    have hF2 := (h1.alloc _).trans h2 (fun _ _ e => e)
    go_wp2_with fail
    refine (awake_any _ (hS.fresh (hF2.alloc _))).mono ?_
    rintro r Z ⟨rfl, hZ⟩
    obtain ⟨⟨r0, r1, r2, r3⟩, -⟩ := cells4 (hZ.at ((Below.heap_alloc _ _ _ (lt_of_heap k1)).trans k1) (fun e => e))
    have hFZ := (hF2.alloc _).trans hZ (fun _ _ e => e)
    clear k1
    go_wp2_with fail
    refine (HN.out _ (hS.fresh hFZ)).mono ?_
    rintro r Y ⟨rfl, hY⟩
    go_wp2
    go_ret
    exact ⟨by simp, hFZ.trans hY (fun _ _ e => e)⟩

theorem walk (b : Nat) (w : World) (hS : Sing w) (hT : Tab w) (hb : b < 4294967296) :
    Calls Tryd.prog 8 #[.int .u32 b] w fun r w' => r = .returned (.bool true) ∧ Fresh w w' := by
  rcases kinds b with k | k | k
  · exact walk_not b w hS hT hb 2 false (by rw [read_nan b hb k.1 k.2]; rfl) (by omega)
  · exact walk_not b w hS hT hb 1 (bN b) (by rw [read_inf b hb k.1 k.2]; rfl) (by omega)
  · by_cases h0 : mt b = 0
    · exact walk_not b w hS hT hb 0 (bN b) (by rw [read_fin b hb k, h0]; rfl) (by omega)
    · exact walk_num b w hS hT hb k h0

theorem contract (H : Type) (enc : TypeId × Value → H) (W : World) (base : Nat) (args : Array Value) (ds gs : List (DataW H)) (before : List MemPlace)
    (hval : ∀ (j : Nat) t v, Tryd.f8.params[j]? = some t → args[j]? = some v → Value.okWide Tryd.prog W .any base t v)
    (hW : DataW.Whole enc Tryd.prog Tryd.f8.params.toList Rows.singleBackSpec.vars false W args.toList ds gs before) 
    (hsz : (DataW.weightsEach Tryd.prog (Tryd.f8.params.toList ++ []) (ds ++ gs)).all (· ≤ reachBytes) = true) (hL : laidMetH Tryd.prog Rows.singleBackRow.laid W) :
    Calls Tryd.prog 8 args W fun e W' => ∃ v, e = .returned v ∧ Rows.singleBackSpec.post enc Tryd.prog Tryd.f8 false true false false W args v W' := by
  have hW' := hW
  obtain ⟨p, q, hA0, hV, rfl, hfz, hnd⟩ := hW
  have hA : DataW.TrodAll enc Tryd.prog W 0 (fun _ => true) true Tryd.f8.params.toList args.toList ds p := hA0
  rw [Tryd.params8] at hA hval hsz
  obtain ⟨rfl, rfl⟩ := trodVars_none hV
  obtain ⟨v0, d0, rfl, rfl, h0⟩ := trodAll_one hA
  obtain ⟨x0, rfl, rfl, rfl, w0⟩ := open_int Tryd.underlying22 (hval 0 22 v0 rfl rfl) h0
  obtain ⟨a, rfl, ha⟩ := u32_of w0
  refine (walk a W (sing_of_laid hL (by simp [Rows.singleBackRow])) (tab_of_laid hL) ha).mono fun e W' ⟨he, hk⟩ => ?_
  subst he
  exact ⟨_, rfl, post_law rfl (by kernel_rfl) (by kernel_rfl) hW' rfl hk⟩

theorem laid_met (os : Os) : laidMet Tryd.prog Rows.singleBackRow.laid ((layIn (World.holding Tryd.prog os ⟨#[], #[], []⟩)).forCall (fun _ _ => 0) ⟨#[], #[.int .u32 0], []⟩).memory :=
  laidMet_of_run' 8 (by kernel_rfl) (by kernel_rfl)
theorem reads (os : Os) {H : Type} (enc : TypeId × Value → H) : ∃ places, DataW.whole enc Tryd.prog ((layIn (World.holding Tryd.prog os ⟨#[], #[], []⟩)).forCall (fun _ _ => 0) ⟨#[], #[.int .u32 0], []⟩).memory Tryd.f8.params.toList Rows.singleBackSpec.vars false (#[.int .u32 0] : Array Value).toList 8 = some ([.lit (.int .u32 0)], [], places) :=
  ⟨[], by kernel_rfl⟩

set_option maxRecDepth 100000 in
theorem lifted (os : Os) (started : os.Started) (H : Type) (enc : TypeId × Value → H) (F : Stop.Interp) :
    ReturnsInHanded {} Tryd.checked os 8 .any ((OpenSpec.ofChange Rows.singleBackSpec).preRow enc Tryd.prog Tryd.f8 Rows.singleBackRow.domain false Rows.singleBackRow.laid) (((OpenSpec.ofChange Rows.singleBackSpec).at F).post enc Tryd.prog Tryd.f8 false true false false) := by
  obtain ⟨places, hx⟩ := reads os enc
  refine returnsInHanded_of_row (C := Tryd.checked) (s := OpenSpec.ofChange Rows.singleBackSpec) Tryd.own started (by kernel_rfl) Tryd.func8
    (witness_row_at (enc := enc) (C := Tryd.checked) false (layIn (World.holding Tryd.prog os ⟨#[], #[], []⟩)) #[.int .u32 0] rfl (by kernel_rfl) (by kernel_rfl) (by kernel_rfl)
      (OpenSpec.preRow_of_cond 8 hx (by kernel_rfl) (fun k hk => by cases hk) (by kernel_rfl) (laid_met os))) ?_
  intro W base args ds gs before hval hW _ hc hsz hL _ _
  exact contract H enc W base args ds gs before hval hW hsz hL

theorem said : Rows.SingleBackSaid :=
  OpenClaim.holds_of_cond 8 Tryd.f8 rfl rfl rfl rfl rfl rfl rfl ⟨rfl, rfl, rfl, rfl, rfl⟩ rfl rfl rfl rfl rfl (by kernel_rfl) Tryd.func8 (by kernel_rfl)
    (of_decide_eq_true (by kernel_rfl)) (by unfold Func.isWrapper; first | (rw [if_pos (by decide +kernel)]; kernel_rfl) | (rw [if_neg (by decide +kernel)]; exact ⟨rfl, rfl⟩))
    (fun os started H enc _ F => by rw [OpenClaim.pre_eq_preRow]; exact lifted os started H enc F)

theorem plain (f : FuncId) (fn : Func) (hf : Tryd.pinned.checked.prog.funcNamed Rows.singleBackRow.func = some f) (hfn : Tryd.pinned.checked.prog.funcs[f]? = some fn) :
    false = Tryd.pinned.checked.prog.looks [] ∧ ∀ (j : Nat) t, fn.params[j]? = some t → Tryd.pinned.checked.prog.wantsStandIn t = false := by
  obtain rfl : f = 8 := Option.some.inj ((show Tryd.prog.funcNamed Rows.singleBackRow.func = some 8 by kernel_rfl).symm.trans hf) |>.symm
  obtain rfl : fn = Tryd.f8 := (Option.some.inj (Tryd.func8.symm.trans hfn)).symm
  refine ⟨by kernel_rfl, fun j t ht => ?_⟩
  have hall : (Tryd.f8.params.toList.all fun u => !Tryd.prog.wantsStandIn u) = true := by kernel_rfl
  exact (show Tryd.prog.wantsStandIn t = false by simpa using List.all_eq_true.1 hall t (Array.mem_toList_iff.2 (Array.mem_of_getElem? ht)))

theorem card : Rows.SingleBackCardSaid :=
  Claim7.holds_tied_plain_at .later [] _ _ _ _ said (fun _ h => by cases h) (by kernel_rfl) (fun _ h => by cases h) singleBack_row_tie rfl ⟨rfl, rfl⟩ (by kernel_rfl) rfl plain (by kernel_rfl)

end Go.Proofs.YtagbjlkpmjbfnaaDoor.LBack
namespace Go.Proofs.YtagbjlkpmjbfnaaDoor
theorem singleBack_card : Rows.SingleBackCardSaid := LBack.card
end Go.Proofs.YtagbjlkpmjbfnaaDoor
