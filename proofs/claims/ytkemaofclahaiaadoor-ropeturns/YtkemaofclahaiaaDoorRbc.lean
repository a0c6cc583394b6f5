/-
  A row turned back, the document's.
-/
import Derived.Test.YtkemaofclahaiaaDoorRoc
namespace Go.Proofs.YtkemaofclahaiaaDoor
open Go.RowKit Go.Lib Go.Maps
set_option maxHeartbeats 400000 in
theorem refBack_any (p q r : Nat → Prop) (xv cv sv : Value) (xs cs ss : List Int) (size : Int) (w : World) (hx : Rk .i8 p w xv xs) (hc : Rk .i8 q w cv cs) (hs : Rk .i8 r w sv ss) (hsz : I64 size) :
    Calls Tryd.prog 14 #[xv, zV size, cv, sv] w fun e w' => Gives .i8 33 (toL (-1) xs size cs ss) (toE xs.length size cs.length ss.length) w e w' := by
  have H : Hid (Unit → _) := fun (_ : Unit) => refTurned_any (-1) (.inr rfl) p q r xv cv sv xs cs ss size w hx hc hs hsz
  obtain ⟨xo, xc, rfl, _⟩ := hx.shape
  obtain ⟨co, cc, rfl, _⟩ := hc.shape
  obtain ⟨so, sc, rfl, _⟩ := hs.shape
  clear hx hc hs hsz
  generalize toL (-1) xs size cs ss = L at *
  generalize toE xs.length size cs.length ss.length = E at *
  rw [show -(-1 : Int) = 1 from rfl] at H
  go_enter Tryd.func14, Tryd.ntmps14
  go_wp2_with fail
  refine (H.out ()).mono ?_
  rintro e w1 ⟨v, rfl, ho, hF⟩
  have HX : Hid (Gives .i8 33 L E w (.returned (.tuple #[v, zV E])) w1) := ⟨v, rfl, ho, hF⟩
  clear ho hF H
  go_wp2
  go_ret2
  exact HX.out
end Go.Proofs.YtkemaofclahaiaaDoor
