/-
  Pack: whether a number, rounded by a shift, has room in 4 bits.
-/
import Derived.Test.YtlepdogfgpeogaaVdb
namespace Go.Proofs.Ytlepdogfgpeogaa
open Go.RowKit Go.Lib Go.Maps

/-- Rounded by a shift it has room in 4 bits. -/
def fits (x : Int) (s : Nat) : Bool := decide (-7 ≤ rdQ x (s : Int) ∧ rdQ x (s : Int) ≤ 7)
theorem fits_five {x : Int} (h : -128 ≤ x ∧ x ≤ 127) : fits x 5 = true := by
  have : ∀ m : Fin 256, fits (((m : Nat) : Int) - 128) 5 = true := by decide +kernel
  have := this ⟨(x + 128).toNat, by omega⟩
  rwa [show (((x + 128).toNat : Nat) : Int) - 128 = x by omega] at this
/-- What has room keeps it as the shift grows. -/
theorem fits_more {x : Int} (h : -128 ≤ x ∧ x ≤ 127) {s : Nat} (hs : s < 5) (hf : fits x s = true) : fits x (s + 1) = true := by
  have : ∀ (m : Fin 256) (s : Fin 5), fits (((m : Nat) : Int) - 128) (s : Nat) = true → fits (((m : Nat) : Int) - 128) ((s : Nat) + 1) = true := by decide +kernel
  have := this ⟨(x + 128).toNat, by omega⟩ ⟨s, hs⟩
  rw [show (((x + 128).toNat : Nat) : Int) - 128 = x by omega] at this
  exact this hf

theorem hasRoom_any (x : Int) (s : Nat) (w : World) (hx : -128 ≤ x ∧ x ≤ 127) :
    Calls Try.prog 54 #[.int .i8 x, zV (s : Int)] w fun e w' => e = .returned (.bool (fits x s)) ∧ Drew w w' := by
  have HR : Hid (Unit → _) := fun (_ : Unit) => vround_any x (s : Int) w ⟨by omega, by omega⟩
  unfold fits
  generalize rdQ x (s : Int) = q at *
  by_cases h1 : -7 ≤ q
  · by_cases h2 : q ≤ 7
    · rw [decide_eq_true (p := -7 ≤ q ∧ q ≤ 7) ⟨h1, h2⟩]
      go_enter Try.func54, Try.ntmps54
      go_wp2_with fail
      refine (HR.out ()).mono ?_
      rintro e w1 ⟨rfl, hd⟩
      have HD : Hid (Drew w w1) := hd
      clear hd HR
      go_wp2
      go_ret
      exact ⟨by simp, HD.out⟩
    · rw [decide_eq_false (p := -7 ≤ q ∧ q ≤ 7) (fun e => h2 e.2)]
      go_enter Try.func54, Try.ntmps54
      go_wp2_with fail
      refine (HR.out ()).mono ?_
      rintro e w1 ⟨rfl, hd⟩
      have HD : Hid (Drew w w1) := hd
      clear hd HR
      go_wp2
      go_ret
      exact ⟨by simp <;> omega, HD.out⟩
  · rw [decide_eq_false (p := -7 ≤ q ∧ q ≤ 7) (fun e => h1 e.1)]
    go_enter Try.func54, Try.ntmps54
    go_wp2_with fail
    refine (HR.out ()).mono ?_
    rintro e w1 ⟨rfl, hd⟩
    have HD : Hid (Drew w w1) := hd
    clear hd HR
    go_wp2
    go_ret
    exact ⟨by simp, HD.out⟩
end Go.Proofs.Ytlepdogfgpeogaa
