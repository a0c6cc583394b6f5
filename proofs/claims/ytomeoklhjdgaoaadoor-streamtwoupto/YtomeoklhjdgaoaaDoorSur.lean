/-
  step: every kind.
-/
import Derived.Test.YtomeoklhjdgaoaaDoorSuq
import Derived.Test.YtomeoklhjdgaoaaDoorSun
namespace Go.Proofs.YtomeoklhjdgaoaaDoor
open Go.RowKit Go.Lib Go.Maps

theorem step_any (T : List (List UInt8)) (F : Nat → Prop) (w : World) (pv : Value) (so : Option Addr) (sn sc : Nat) (no en : Bool) (all out piece : List UInt8) (met k : Int) (h : PlS T F w pv so sn sc no all out met en) (hFl : ∀ q, F q → q < w.heap.size) (hk : I64 k) (hl : all.length + piece.length ≤ 4194304) (hm : TbM w) :
    Calls Tryd.prog 14 #[pv, rsV no (.slice so sn sc) all out met en, .agg #[zV k, sV piece]] w fun e w' => StepQ T F w pv so sn sc no (all.length + piece.length) e w' := by
  by_cases k2 : kdF k = 2
  · exact step2 T F w pv so sn sc no en all out piece met k h hFl hk hl k2
  by_cases k3 : kdF k = 3
  · exact step3 T F w pv so sn sc no en all out piece met k h hk k3
  by_cases k4 : kdF k = 4
  · exact step4 T F w pv so sn sc no en all out piece met k h hk hl k4
  by_cases k5 : kdF k = 5
  · exact step5 T F w pv so sn sc no en all out piece met k h hk k5
  exact step0 T F w pv so sn sc no en all out piece met k h hFl hk hl hm ⟨k2, k3, k4, k5⟩
end Go.Proofs.YtomeoklhjdgaoaaDoor
