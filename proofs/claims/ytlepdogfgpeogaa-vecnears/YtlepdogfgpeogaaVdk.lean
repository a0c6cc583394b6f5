/-
  Pack: the shift of a group as a number, and what a packed list's shifts are.
-/
import Derived.Test.YtlepdogfgpeogaaVdj
namespace Go.Proofs.Ytlepdogfgpeogaa
open Go.RowKit Go.Lib Go.Maps

/-- The least shift at or behind s by which each has room (k tries). -/
def shFrom (l : List Int) : Nat → Nat → Nat
  | 0, s => s
  | k + 1, s => if l.all (fun x => fits x s) = true then s else shFrom l k (s + 1)
def shN (l : List Int) : Nat := shFrom l 5 0
theorem shFrom_is {l : List Int} (hl : ∀ y ∈ l, -128 ≤ y ∧ y ≤ 127) : ∀ k s, k + s = 5 → ShNot l s → ShIs l (shFrom l k s)
  | 0, s, hk, h => by
    obtain rfl : s = 5 := by omega
    exact h.shut (List.all_eq_true.2 fun x hx => fits_five (hl x hx))
  | k + 1, s, hk, h => by
    unfold shFrom
    split
    · rename_i hf
      exact h.shut hf
    · rename_i hf
      exact shFrom_is hl k (s + 1) (by omega) (h.grow hl (by simpa using hf)).2
theorem shN_is {l : List Int} (hl : ∀ y ∈ l, -128 ≤ y ∧ y ≤ 127) : ShIs l (shN l) := shFrom_is hl 5 0 rfl ⟨Nat.zero_le _, fun t ht => by omega⟩
theorem shiftOf_at (p : Nat → Prop) (v : Value) (l : List Int) (w : World) (hl : Rk .i8 p w v l) :
    Calls Try.prog 42 #[v] w fun e w' => e = .returned (.int .u8 (shN l : Int)) ∧ Drew w w' :=
  (shiftOf_any p v l w hl).mono fun e w' ⟨s, h1, h2, h3⟩ => ⟨by rw [h1, h2.one (shN_is fun y hy => hl.all y hy)], h3⟩
theorem refShift_at (p : Nat → Prop) (v : Value) (l : List Int) (w : World) (hl : Rk .i8 p w v l) :
    Calls Try.prog 43 #[v] w fun e w' => e = .returned (zV (shN l : Int)) ∧ Drew w w' :=
  (refShift_any p v l w hl).mono fun e w' ⟨s, h1, h2, h3⟩ => ⟨by rw [h1, h2.one (shN_is fun y hy => hl.all y hy)], h3⟩
theorem shN_le {l : List Int} (hl : ∀ y ∈ l, -128 ≤ y ∧ y ≤ 127) : shN l ≤ 5 := (shN_is hl).1

/-- The shifts of a list packed by groups of g, and the 4 bits of its number at i. -/
def pS (l : List Int) (g : Nat) : List Int := (List.range ((l.length + g - 1) / g)).map fun i => ((shN ((l.drop (i * g)).take g) : Nat) : Int)
def pF (l : List Int) (g i : Nat) : Int := rdQ (l.getD i 0) ((shN ((l.drop (i / g * g)).take g) : Nat) : Int) % 16
/-- Its halves: two numbers a byte, the earlier one low. -/
def pH (l : List Int) (g : Nat) : List Int := (List.range ((l.length + 1) / 2)).map fun i => pF l g (2 * i) + 16 * (if 2 * i + 1 < l.length then pF l g (2 * i + 1) else 0)
theorem pS_length (l : List Int) (g : Nat) : (pS l g).length = (l.length + g - 1) / g := by simp [pS]
theorem pH_length (l : List Int) (g : Nat) : (pH l g).length = (l.length + 1) / 2 := by simp [pH]
theorem pF_bound (l : List Int) (g i : Nat) : 0 ≤ pF l g i ∧ pF l g i ≤ 15 := by unfold pF; omega
theorem pH_byte (l : List Int) (g : Nat) : ∀ z ∈ pH l g, 0 ≤ z ∧ z ≤ 255 := fun z hz => by
  obtain ⟨i, _, rfl⟩ := List.mem_map.1 hz
  have h1 := pF_bound l g (2 * i)
  have h2 := pF_bound l g (2 * i + 1)
  show 0 ≤ pF l g (2 * i) + 16 * (if 2 * i + 1 < l.length then pF l g (2 * i + 1) else 0) ∧ pF l g (2 * i) + 16 * (if 2 * i + 1 < l.length then pF l g (2 * i + 1) else 0) ≤ 255
  split <;> omega
end Go.Proofs.Ytlepdogfgpeogaa
