/-
  For all bits a, b and c the statement SingleOrder answers true: awake does, and Compare is an order on numbers; its card, tied to the program's text.
-/
import Derived.Test.YtagbjlkpmjbfnabDoorLaV
import Derived.Test.YtagbjlkpmjbfnabDoorCpR
namespace Go.Proofs.YtagbjlkpmjbfnabDoor.LOrder
open Go.ChangeShapes Go.WideShapes Go.ChangeAt Go.RowKit

theorem okC_comm (a b : Nat) : okC b a = okC a b := by unfold okC; rw [Bool.or_comm]
theorem cmp3_spec (a b : Int) : (a < b ∧ cmp3 a b = -1) ∨ (a = b ∧ cmp3 a b = 0) ∨ (b < a ∧ cmp3 a b = 1) := by
  unfold cmp3
  rcases Int.lt_trichotomy a b with h | h | h
  · left; exact ⟨h, if_pos h⟩
  · right; left; exact ⟨h, by rw [if_neg (by omega), if_neg (by omega)]⟩
  · right; right; exact ⟨h, by rw [if_neg (by omega), if_pos h]⟩
theorem cmp3_three (x y z : Int) : (cmp3 x y = -1 ∧ cmp3 y z = -1 ∧ cmp3 x z = -1) ∨ (cmp3 x y = -1 ∧ cmp3 y z = 0 ∧ cmp3 x z = -1) ∨ (cmp3 x y = 0 ∧ cmp3 y z = -1 ∧ cmp3 x z = -1) ∨ (cmp3 x y = 0 ∧ cmp3 y z = 0 ∧ cmp3 x z = 0) ∨ (cmp3 x y = 0 ∧ cmp3 y z = 1 ∧ cmp3 x z = 1) ∨ (cmp3 x y = 1 ∧ cmp3 y z = 0 ∧ cmp3 x z = 1) ∨ (cmp3 x y = 1 ∧ cmp3 y z = 1 ∧ cmp3 x z = 1) ∨
    (cmp3 x y = 1 ∧ cmp3 y z = -1 ∧ (cmp3 x z = -1 ∨ cmp3 x z = 0 ∨ cmp3 x z = 1)) ∨ (cmp3 x y = -1 ∧ cmp3 y z = 1 ∧ (cmp3 x z = -1 ∨ cmp3 x z = 0 ∨ cmp3 x z = 1)) := by
  rcases cmp3_spec x y with ⟨a, e1⟩ | ⟨a, e1⟩ | ⟨a, e1⟩ <;> rcases cmp3_spec y z with ⟨b, e2⟩ | ⟨b, e2⟩ | ⟨b, e2⟩ <;> rcases cmp3_spec x z with ⟨c, e3⟩ | ⟨c, e3⟩ | ⟨c, e3⟩ <;> rw [e1, e2, e3] <;> first | decide | (exfalso; clear e1 e2 e3; omega)

theorem cmp3_neg (x y : Int) : cmp3 y x = -(cmp3 x y) := by
  rcases cmp3_spec x y with ⟨a, e1⟩ | ⟨a, e1⟩ | ⟨a, e1⟩ <;> rcases cmp3_spec y x with ⟨b, e2⟩ | ⟨b, e2⟩ | ⟨b, e2⟩ <;> rw [e1, e2] <;> first | decide | (exfalso; clear e1 e2; omega)
theorem cmpC_comm (a b : Nat) : cmpC b a = -(cmpC a b) := by
  unfold cmpC
  rw [okC_comm]
  split
  · exact cmp3_neg _ _
  · rfl
theorem cmpC_bound (a b : Nat) : -1 ≤ cmpC a b ∧ cmpC a b ≤ 1 := by
  unfold cmpC
  split
  · exact cmp3_bound _ _
  · omega
theorem cmpC_ok {a b : Nat} (h : okC a b = true) : cmpC a b = cmp3 (vl a) (vl b) := by unfold cmpC; rw [if_pos h]

set_option maxHeartbeats 4000000 in
set_option maxRecDepth 100000 in
/-- The walk, with what the six comparisons say as letters. -/
theorem walk_not (a b c : Nat) (w : World) (hS : Sing w) (x y z : Int) (A B C : Bool) (hx : -1 ≤ x ∧ x ≤ 1) (hn : ¬ (A = true ∧ B = true ∧ C = true))
    (H1 : Hid (∀ X, Sing X → Calls Tryd.prog 9 #[.int .u32 a, .int .u32 b] X fun e w' => e = .returned (.tuple #[.int .i64 x, .bool A]) ∧ Fresh X w'))
    (H2 : Hid (∀ X, Sing X → Calls Tryd.prog 9 #[.int .u32 b, .int .u32 c] X fun e w' => e = .returned (.tuple #[.int .i64 y, .bool B]) ∧ Fresh X w'))
    (H3 : Hid (∀ X, Sing X → Calls Tryd.prog 9 #[.int .u32 a, .int .u32 c] X fun e w' => e = .returned (.tuple #[.int .i64 z, .bool C]) ∧ Fresh X w'))
    (H4 : Hid (∀ X, Sing X → Calls Tryd.prog 9 #[.int .u32 b, .int .u32 a] X fun e w' => e = .returned (.tuple #[.int .i64 (-x), .bool A]) ∧ Fresh X w'))
    (H5 : Hid (∀ X, Calls Tryd.prog 10 #[.int .u32 a, .int .u32 b] X fun e w' => e = .returned (.tuple #[.int .i64 x, .bool A]) ∧ X = w'))
    (H6 : Hid (∀ X, Calls Tryd.prog 10 #[.int .u32 b, .int .u32 c] X fun e w' => e = .returned (.tuple #[.int .i64 y, .bool B]) ∧ X = w')) :
    Calls Tryd.prog 3 #[.int .u32 a, .int .u32 b, .int .u32 c] w fun r w' => r = .returned (.bool true) ∧ Fresh w w' := by
  obtain ⟨hx1, hx2⟩ := hx
  cases A <;> cases B <;> cases C <;> first | (exact absurd ⟨rfl, rfl, rfl⟩ hn) | skip
  all_goals
    clear hn
    go_enter Tryd.func3, Tryd.ntmps3
    go_wp2_with fail
    refine (H1.out _ hS).mono ?_
    rintro r w1 ⟨rfl, h1⟩
    have hS1 := hS.fresh h1
    go_wp2_with fail
    refine (H2.out _ hS1).mono ?_
    rintro r w2 ⟨rfl, h2⟩
    have hS2 := hS1.fresh h2
    go_wp2_with fail
    refine (H3.out _ hS2).mono ?_
    rintro r w3 ⟨rfl, h3⟩
    have hS3 := hS2.fresh h3
    go_wp2_with fail
    refine (H4.out _ hS3).mono ?_
    rintro r w4 ⟨rfl, h4⟩
    have hS4 := hS3.fresh h4
    have hF := ((h1.trans h2 (fun _ _ e => e)).trans h3 (fun _ _ e => e)).trans h4 (fun _ _ e => e)
    go_wp2_with fail
    refine (H5.out _).mono ?_
    rintro r X ⟨rfl, rfl⟩
    go_wp2_with fail
    refine (H6.out _).mono ?_
    rintro r X ⟨rfl, rfl⟩
    go_wp2_with fail
    refine (awake_any _ hS4).mono ?_
    rintro r w5 ⟨rfl, h5⟩
    go_wp2
    go_ret
    exact ⟨rfl, hF.trans h5 (fun _ _ e => e)⟩

set_option maxHeartbeats 4000000 in
set_option maxRecDepth 100000 in
/-- All are numbers: x, y and z are three comparisons that fit. -/
theorem walk_all (a b c : Nat) (w : World) (hS : Sing w) (x y z : Int)
    (hxyz : (x = -1 ∧ y = -1 ∧ z = -1) ∨ (x = -1 ∧ y = 0 ∧ z = -1) ∨ (x = 0 ∧ y = -1 ∧ z = -1) ∨ (x = 0 ∧ y = 0 ∧ z = 0) ∨ (x = 0 ∧ y = 1 ∧ z = 1) ∨ (x = 1 ∧ y = 0 ∧ z = 1) ∨ (x = 1 ∧ y = 1 ∧ z = 1) ∨
      (x = 1 ∧ y = -1 ∧ (z = -1 ∨ z = 0 ∨ z = 1)) ∨ (x = -1 ∧ y = 1 ∧ (z = -1 ∨ z = 0 ∨ z = 1)))
    (H1 : Hid (∀ X, Sing X → Calls Tryd.prog 9 #[.int .u32 a, .int .u32 b] X fun e w' => e = .returned (.tuple #[.int .i64 x, .bool true]) ∧ Fresh X w'))
    (H2 : Hid (∀ X, Sing X → Calls Tryd.prog 9 #[.int .u32 b, .int .u32 c] X fun e w' => e = .returned (.tuple #[.int .i64 y, .bool true]) ∧ Fresh X w'))
    (H3 : Hid (∀ X, Sing X → Calls Tryd.prog 9 #[.int .u32 a, .int .u32 c] X fun e w' => e = .returned (.tuple #[.int .i64 z, .bool true]) ∧ Fresh X w'))
    (H4 : Hid (∀ X, Sing X → Calls Tryd.prog 9 #[.int .u32 b, .int .u32 a] X fun e w' => e = .returned (.tuple #[.int .i64 (-x), .bool true]) ∧ Fresh X w')) :
    Calls Tryd.prog 3 #[.int .u32 a, .int .u32 b, .int .u32 c] w fun r w' => r = .returned (.bool true) ∧ Fresh w w' := by
  rcases hxyz with ⟨rfl, rfl, rfl⟩ | ⟨rfl, rfl, rfl⟩ | ⟨rfl, rfl, rfl⟩ | ⟨rfl, rfl, rfl⟩ | ⟨rfl, rfl, rfl⟩ | ⟨rfl, rfl, rfl⟩ | ⟨rfl, rfl, rfl⟩ | ⟨rfl, rfl, rfl | rfl | rfl⟩ | ⟨rfl, rfl, rfl | rfl | rfl⟩
  all_goals
    go_enter Tryd.func3, Tryd.ntmps3
    go_wp2_with fail
    refine (H1.out _ hS).mono ?_
    rintro r w1 ⟨rfl, h1⟩
    have hS1 := hS.fresh h1
    go_wp2_with fail
    refine (H2.out _ hS1).mono ?_
    rintro r w2 ⟨rfl, h2⟩
    have hS2 := hS1.fresh h2
    go_wp2_with fail
    refine (H3.out _ hS2).mono ?_
    rintro r w3 ⟨rfl, h3⟩
    have hS3 := hS2.fresh h3
    go_wp2_with fail
    refine (H4.out _ hS3).mono ?_
    rintro r w4 ⟨rfl, h4⟩
    have hS4 := hS3.fresh h4
    have hF := ((h1.trans h2 (fun _ _ e => e)).trans h3 (fun _ _ e => e)).trans h4 (fun _ _ e => e)
    go_wp2_with fail
    refine (awake_any _ hS4).mono ?_
    rintro r w5 ⟨rfl, h5⟩
    go_wp2
    go_ret
    exact ⟨rfl, hF.trans h5 (fun _ _ e => e)⟩

theorem walk (a b c : Nat) (w : World) (hS : Sing w) (ha : a < 4294967296) (hb : b < 4294967296) (hc : c < 4294967296) :
    Calls Tryd.prog 3 #[.int .u32 a, .int .u32 b, .int .u32 c] w fun r w' => r = .returned (.bool true) ∧ Fresh w w' := by
  have H1 := fun X (hX : Sing X) => Compare_any a b X hX ha hb
  have H2 := fun X (hX : Sing X) => Compare_any b c X hX hb hc
  have H3 := fun X (hX : Sing X) => Compare_any a c X hX ha hc
  have H4 := fun X (hX : Sing X) => Compare_any b a X hX hb ha
  rw [cmpC_comm, okC_comm] at H4
  by_cases hok : okC a b = true ∧ okC b c = true ∧ okC a c = true
  · obtain ⟨o1, o2, o3⟩ := hok
    have ht := cmp3_three (vl a) (vl b) (vl c)
    rw [← cmpC_ok o1, ← cmpC_ok o2, ← cmpC_ok o3] at ht
    rw [o1] at H1 H4
    rw [o2] at H2
    rw [o3] at H3
    exact walk_all a b c w hS _ _ _ ht H1 H2 H3 H4
  · exact walk_not a b c w hS _ _ _ _ _ _ (cmpC_bound a b) hok H1 H2 H3 H4 (fun X => refCompare_any a b X ha hb) (fun X => refCompare_any b c X hb hc)

theorem contract (H : Type) (enc : TypeId × Value → H) (W : World) (base : Nat) (args : Array Value) (ds gs : List (DataW H)) (before : List MemPlace)
    (hval : ∀ (j : Nat) t v, Tryd.f3.params[j]? = some t → args[j]? = some v → Value.okWide Tryd.prog W .any base t v)
    (hW : DataW.Whole enc Tryd.prog Tryd.f3.params.toList Rows.singleOrderSpec.vars false W args.toList ds gs before) 
    (hsz : (DataW.weightsEach Tryd.prog (Tryd.f3.params.toList ++ []) (ds ++ gs)).all (· ≤ reachBytes) = true) (hL : laidMetH Tryd.prog Rows.singleOrderRow.laid W) :
    Calls Tryd.prog 3 args W fun e W' => ∃ v, e = .returned v ∧ Rows.singleOrderSpec.post enc Tryd.prog Tryd.f3 false true false false W args v W' := by
  have hW' := hW
  obtain ⟨p, q, hA0, hV, rfl, hfz, hnd⟩ := hW
  have hA : DataW.TrodAll enc Tryd.prog W 0 (fun _ => true) true Tryd.f3.params.toList args.toList ds p := hA0
  rw [Tryd.params3] at hA hval hsz
  obtain ⟨rfl, rfl⟩ := trodVars_none hV
  obtain ⟨v0, v1, v2, d0, d1, d2, p0, p1, p2, rfl, rfl, rfl, h0, h1, h2⟩ := trodAll_three hA
  obtain ⟨x0, rfl, rfl, rfl, w0⟩ := open_int Tryd.underlying22 (hval 0 22 v0 rfl rfl) h0
  obtain ⟨x1, rfl, rfl, rfl, w1⟩ := open_int Tryd.underlying22 (hval 1 22 v1 rfl rfl) h1
  obtain ⟨x2, rfl, rfl, rfl, w2⟩ := open_int Tryd.underlying22 (hval 2 22 v2 rfl rfl) h2
  obtain ⟨a, rfl, ha⟩ := u32_of w0
  obtain ⟨b, rfl, hb⟩ := u32_of w1
  obtain ⟨c, rfl, hc⟩ := u32_of w2
  refine (walk a b c W (sing_of_laid hL (by simp [Rows.singleOrderRow])) ha hb hc).mono fun e W' ⟨he, hk⟩ => ?_
  subst he
  exact ⟨_, rfl, post_law rfl (by kernel_rfl) (by kernel_rfl) hW' rfl hk⟩

theorem laid_met (os : Os) : laidMet Tryd.prog Rows.singleOrderRow.laid ((layIn (World.holding Tryd.prog os ⟨#[], #[], []⟩)).forCall (fun _ _ => 0) ⟨#[], #[.int .u32 0, .int .u32 0, .int .u32 0], []⟩).memory :=
  laidMet_of_run' 8 (by kernel_rfl) (by kernel_rfl)
theorem reads (os : Os) {H : Type} (enc : TypeId × Value → H) : ∃ places, DataW.whole enc Tryd.prog ((layIn (World.holding Tryd.prog os ⟨#[], #[], []⟩)).forCall (fun _ _ => 0) ⟨#[], #[.int .u32 0, .int .u32 0, .int .u32 0], []⟩).memory Tryd.f3.params.toList Rows.singleOrderSpec.vars false (#[.int .u32 0, .int .u32 0, .int .u32 0] : Array Value).toList 8 = some ([.lit (.int .u32 0), .lit (.int .u32 0), .lit (.int .u32 0)], [], places) :=
  ⟨[], by kernel_rfl⟩

set_option maxRecDepth 100000 in
theorem lifted (os : Os) (started : os.Started) (H : Type) (enc : TypeId × Value → H) (F : Stop.Interp) :
    ReturnsInHanded {} Tryd.checked os 3 .any ((OpenSpec.ofChange Rows.singleOrderSpec).preRow enc Tryd.prog Tryd.f3 Rows.singleOrderRow.domain false Rows.singleOrderRow.laid) (((OpenSpec.ofChange Rows.singleOrderSpec).at F).post enc Tryd.prog Tryd.f3 false true false false) := by
  obtain ⟨places, hx⟩ := reads os enc
  refine returnsInHanded_of_row (C := Tryd.checked) (s := OpenSpec.ofChange Rows.singleOrderSpec) Tryd.own started (by kernel_rfl) Tryd.func3
    (witness_row_at (enc := enc) (C := Tryd.checked) false (layIn (World.holding Tryd.prog os ⟨#[], #[], []⟩)) #[.int .u32 0, .int .u32 0, .int .u32 0] rfl (by kernel_rfl) (by kernel_rfl) (by kernel_rfl)
      (OpenSpec.preRow_of_cond 8 hx (by kernel_rfl) (fun k hk => by cases hk) (by kernel_rfl) (laid_met os))) ?_
  intro W base args ds gs before hval hW _ hc hsz hL _ _
  exact contract H enc W base args ds gs before hval hW hsz hL

theorem said : Rows.SingleOrderSaid :=
  OpenClaim.holds_of_cond 3 Tryd.f3 rfl rfl rfl rfl rfl rfl rfl ⟨rfl, rfl, rfl, rfl, rfl⟩ rfl rfl rfl rfl rfl (by kernel_rfl) Tryd.func3 (by kernel_rfl)
    (of_decide_eq_true (by kernel_rfl)) (by unfold Func.isWrapper; first | (rw [if_pos (by decide +kernel)]; kernel_rfl) | (rw [if_neg (by decide +kernel)]; exact ⟨rfl, rfl⟩))
    (fun os started H enc _ F => by rw [OpenClaim.pre_eq_preRow]; exact lifted os started H enc F)

theorem plain (f : FuncId) (fn : Func) (hf : Tryd.pinned.checked.prog.funcNamed Rows.singleOrderRow.func = some f) (hfn : Tryd.pinned.checked.prog.funcs[f]? = some fn) :
    false = Tryd.pinned.checked.prog.looks [] ∧ ∀ (j : Nat) t, fn.params[j]? = some t → Tryd.pinned.checked.prog.wantsStandIn t = false := by
  obtain rfl : f = 3 := Option.some.inj ((show Tryd.prog.funcNamed Rows.singleOrderRow.func = some 3 by kernel_rfl).symm.trans hf) |>.symm
  obtain rfl : fn = Tryd.f3 := (Option.some.inj (Tryd.func3.symm.trans hfn)).symm
  refine ⟨by kernel_rfl, fun j t ht => ?_⟩
  have hall : (Tryd.f3.params.toList.all fun u => !Tryd.prog.wantsStandIn u) = true := by kernel_rfl
  exact (show Tryd.prog.wantsStandIn t = false by simpa using List.all_eq_true.1 hall t (Array.mem_toList_iff.2 (Array.mem_of_getElem? ht)))

theorem card : Rows.SingleOrderCardSaid :=
  Claim7.holds_tied_plain_at .later [] _ _ _ _ said (fun _ h => by cases h) (by kernel_rfl) (fun _ h => by cases h) singleOrder_row_tie rfl ⟨rfl, rfl⟩ (by kernel_rfl) rfl plain (by kernel_rfl)

end Go.Proofs.YtagbjlkpmjbfnabDoor.LOrder
namespace Go.Proofs.YtagbjlkpmjbfnabDoor
theorem singleOrder_card : Rows.SingleOrderCardSaid := LOrder.card
end Go.Proofs.YtagbjlkpmjbfnabDoor
