/-
  step.
-/
import Derived.Test.YtomeoklhjdgaoaaDoorSui
namespace Go.Proofs.YtomeoklhjdgaoaaDoor
open Go.RowKit Go.Lib Go.Maps

abbrev opO (k : Int) (piece : List UInt8) : Obj := .cells #[zV k, sV piece] 34 (0, 0)
/-- What step answers, and what memory holds then. -/
def StepQ (T : List (List UInt8)) (F : Nat → Prop) (w : World) (pv : Value) (so : Option Addr) (sn sc : Nat) (no : Bool) (len : Nat) (e : Ending) (w' : World) : Prop :=
  ∃ (all' out' : List UInt8) (met' : Int) (en' : Bool) (F' : Nat → Prop), e = .returned (.tuple #[rsV no (.slice so sn sc) all' out' met' en', .bool true]) ∧ PlS T F' w' pv so sn sc no all' out' met' en' ∧ Mvd F w F' w' ∧ all'.length ≤ len
theorem StepQ.cast {T : List (List UInt8)} {F : Nat → Prop} {w : World} {pv : Value} {so : Option Addr} {sn sc : Nat} {no : Bool} {len : Nat} {e e2 : Ending} {w' : World} (h : StepQ T F w pv so sn sc no len e w') (he : e2 = e) : StepQ T F w pv so sn sc no len e2 w' := he ▸ h
theorem alloc3 (w : World) (a b c : Obj) : (((w.alloc a).alloc b).alloc c).heap[w.heap.size + 1 + 1]? = some c := by
  have := heap_alloc_new ((w.alloc a).alloc b) c
  rwa [World.size_alloc, World.size_alloc] at this
set_option maxHeartbeats 8000000 in
set_option maxRecDepth 100000 in
theorem step5 (T : List (List UInt8)) (F : Nat → Prop) (w : World) (pv : Value) (so : Option Addr) (sn sc : Nat) (no en : Bool) (all out piece : List UInt8) (met k : Int) (h : PlS T F w pv so sn sc no all out met en) (hk : I64 k) (hkd : kdF k = 5) :
    Calls Tryd.prog 14 #[pv, rsV no (.slice so sn sc) all out met en, .agg #[zV k, sV piece]] w fun e w' => StepQ T F w pv so sn sc no (all.length + piece.length) e w' := by
  have hoo : (out == out) = true := beq_self_eq_true _
  have HK : Hid (∀ W, Calls Tryd.prog 35 #[zV k, zV 6] W fun e w' => e = .returned (zV 5) ∧ w' = W) := fun W => by have := kind_any k W hk; rwa [hkd] at this
  have HT : Hid (∀ W, Fresh w W → Calls Tryd.prog 15 #[pv] W fun e w' => e = .returned (sV out) ∧ w' = W) := fun W hk => (h.fresh hk).text
  have HE : Hid (∀ W, Fresh w W → StepQ T F w pv so sn sc no (all.length + piece.length) (.returned (.tuple #[rsV no (.slice so sn sc) all out met en, .bool true])) W) := fun W hk => ⟨all, out, met, en, F, rfl, h.fresh hk, Mvd.fresh hk, by omega⟩
  clear hkd hk h
  go_enter Tryd.func14, Tryd.ntmps14
  go_wp2_with fail
  refine Calls.mono (HK.out _) ?_
  rintro e' W1 ⟨rfl, hW⟩
  subst hW
  clear HK
  go_wp2
  go_region_with (first | (go_at_call 15; refine Calls.mono (HT.out _ (by first | exact (((Kept.refl _ w).alloc _).alloc _).alloc _ | exact ((((Kept.refl _ w).alloc _).alloc _).alloc _).drew)) ?_; rintro e5 W5 ⟨rfl, hW5⟩; subst hW5))
  all_goals
    go_wp2
    refine bodyPost_ret (results_ct rfl _ _ (w.heap.size + 1 + 1) _ _ _ _ rfl (alloc3 _ _ _ _) Tryd.underlying30 rfl rsSize) rfl ?_
    refine StepQ.cast (HE.out _ (by first | exact (((Kept.refl _ w).alloc _).alloc _).alloc _ | exact ((((Kept.refl _ w).alloc _).alloc _).alloc _).drew)) ?_
    first | rfl | simp
end Go.Proofs.YtomeoklhjdgaoaaDoor
