/-
  The document's stream as a value: what it holds back.
-/
import Derived.Test.YtomeoklhjdgaoaaDoorSto
import Derived.Test.YtomeoklhjdgaoaaDoorStr
import Derived.Test.YtomeoklhjdgaoaaDoorRgo
namespace Go.Proofs.YtomeoklhjdgaoaaDoor
open Go.RowKit Go.Lib Go.Maps

abbrev rsV (no : Bool) (sv : Value) (all out : List UInt8) (met : Int) (en : Bool) : Value := .agg #[.bool no, sv, sV all, sV out, zV met, .bool en]
set_option maxHeartbeats 1000000 in
set_option maxRecDepth 100000 in
theorem refBack_done (no en : Bool) (sv : Value) (all out : List UInt8) (met : Int) (w : World) (h : no = true ∨ en = true ∨ 0 ≤ met) :
    Calls Tryd.prog 37 #[rsV no sv all out met en] w fun e w' => e = .returned (sV []) ∧ Fresh w w' := by
  have HF : Hid (Fresh w (w.alloc (.cells #[.bool no, sv, sV all, sV out, zV met, .bool en] 30))) := (Kept.refl _ w).alloc _
  cases no with
  | true =>
    clear h
    go_enter Tryd.func37, Tryd.ntmps37
    go_wp2
    go_ret
    exact ⟨rfl, HF.out⟩
  | false =>
    cases en with
    | true =>
      clear h
      go_enter Tryd.func37, Tryd.ntmps37
      go_wp2
      go_ret
      exact ⟨rfl, HF.out⟩
    | false =>
      have h0 : 0 ≤ met := by simpa using h
      clear h
      go_enter Tryd.func37, Tryd.ntmps37
      go_wp2
      go_ret
      exact ⟨rfl, HF.out⟩
set_option maxHeartbeats 1000000 in
set_option maxRecDepth 100000 in
theorem refBack_live {p : Nat → Prop} (T : List (List UInt8)) (sv : Value) (all out : List UInt8) (w : World) (hR : TxR p w sv T) (hT : GdT T) (hl : all.length ≤ 16777216) :
    Calls Tryd.prog 37 #[rsV false sv all out (-1) false] w fun e w' => e = .returned (sV (hldF T all)) ∧ Fresh w w' := by
  have hF : Fresh w (w.alloc (.cells #[.bool false, sv, sV all, sV out, zV (-1), .bool false] 30)) := (Kept.refl _ w).alloc _
  have HF : Hid (Fresh w (w.alloc (.cells #[.bool false, sv, sV all, sV out, zV (-1), .bool false] 30))) := hF
  have HC := show Hid _ from refHeld_any T all sv _ hl (hR.fresh hF) hT
  obtain ⟨ao, cap, rfl⟩ := hR.shape
  clear hR hF
  generalize hldF T all = R at *
  generalize T.length = n at *
  go_enter Tryd.func37, Tryd.ntmps37
  go_wp2_with fail
  refine Calls.mono HC.out ?_
  rintro e' W1 ⟨rfl, hF1⟩
  have HF1 : Hid (Fresh w W1) := HF.out.trans hF1 (fun _ _ e => e)
  clear HC hF1
  go_wp2
  go_ret
  exact ⟨rfl, HF1.out⟩
end Go.Proofs.YtomeoklhjdgaoaaDoor
