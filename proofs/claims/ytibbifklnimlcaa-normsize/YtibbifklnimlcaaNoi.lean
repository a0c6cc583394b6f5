/-
  Root, the package's.
-/
import Derived.Test.YtibbifklnimlcaaNoa
namespace Go.Proofs.Ytibbifklnimlcaa
open Go.RowKit Go.Lib Go.Maps

set_option maxHeartbeats 1000000 in
set_option maxRecDepth 100000 in
theorem Root_any (p : Nat → Prop) (lv : Value) (zs : List Int) (w : World) (hl : Rk .i64 p w lv zs) :
    Calls Try.prog 9 #[lv] w fun e w' => e = .returned (.tuple #[zV (rV zs), zV (nE zs)]) ∧ Drew w w' := by
  have HR : Hid (Unit → _) := fun (_ : Unit) => refusal_any p lv zs w hl
  by_cases h0 : nE zs = 0
  · have HT : Hid (Unit → _) := fun (_ : Unit) => root_any p lv zs w hl h0
    have HV : Hid (rV zs = (rt zs : Int)) := if_pos h0
    rw [HV.out, h0]
    rw [h0] at HR
    obtain ⟨ao, ac, rfl, _⟩ := hl.shape
    clear hl
    go_enter Try.func9, Try.ntmps9
    go_wp2_with fail
    refine (HR.out ()).mono ?_
    rintro e w1 ⟨rfl, hw1⟩
    have hw2 := hw1.symm
    subst hw2
    clear hw1 HR
    go_wp2_with fail
    refine (HT.out ()).mono ?_
    rintro e w1 ⟨rfl, hd⟩
    have HX : Hid _ := hd
    clear hd HT
    go_wp2
    go_ret2
    exact ⟨rfl, HX.out⟩
  · have HV : Hid (rV zs = 0) := if_neg h0
    have h0' : (nE zs == 0) = false := by simp [h0]
    rw [HV.out]
    obtain ⟨ao, ac, rfl, _⟩ := hl.shape
    clear hl
    go_enter Try.func9, Try.ntmps9
    go_wp2_with fail
    refine (HR.out ()).mono ?_
    rintro e w1 ⟨rfl, hw1⟩
    have hw2 := hw1.symm
    subst hw2
    clear hw1 HR
    go_wp2
    go_ret2
    exact ⟨rfl, Drew.refl _⟩
end Go.Proofs.Ytibbifklnimlcaa
