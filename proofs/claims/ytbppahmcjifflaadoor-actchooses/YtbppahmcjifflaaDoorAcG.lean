/-
  Numbers of Gate.
-/
import Derived.Test.YtbppahmcjifflaaDoorAcN
import Derived.Test.YtbppahmcjifflaaDoorVca
namespace Go.Proofs.YtbppahmcjifflaaDoor
open Go.RowKit

/-- The place of a number in a bend. -/
def plN (x : Int) : Nat := (x % 256).toNat
theorem plN_int (x : Int) : ((plN x : Nat) : Int) = x % 256 := by unfold plN; omega
theorem plN_lt (x : Int) : plN x < 256 := by unfold plN; omega
/-- What Gate answers. -/
def gaE (nb ng nu : Nat) : Int := if nb ≠ 256 then 120 else if 1048576 < ng ∨ 1048576 < nu then 81 else if ng ≠ nu then 80 else 0
def gaF (b g u : List Int) (i : Nat) : Int := clamp (rdQ (b.getD (plN (g.getD i 0)) 0 * u.getD i 0) 6) (-127) 127
def gaL (b g u : List Int) : List Int := if gaE b.length g.length u.length = 0 then mkL g.length (gaF b g u) else []
theorem gaL_bad {b g u : List Int} (h : gaE b.length g.length u.length ≠ 0) : gaL b g u = [] := if_neg h
theorem gaL_ok {b g u : List Int} (h : gaE b.length g.length u.length = 0) : gaL b g u = mkL g.length (gaF b g u) := if_pos h
theorem gaE_zero {nb ng nu : Nat} (h : gaE nb ng nu = 0) : nb = 256 ∧ ng ≤ 1048576 ∧ ng = nu := by
  unfold gaE at h
  split at h
  · cases h
  · split at h
    · cases h
    · split at h
      · cases h
      · omega
theorem ga_cases (nb ng nu : Nat) : (nb ≠ 256 ∧ gaE nb ng nu = 120) ∨ (nb = 256 ∧ 1048576 < ng ∧ gaE nb ng nu = 81) ∨ (nb = 256 ∧ ng ≤ 1048576 ∧ 1048576 < nu ∧ gaE nb ng nu = 81) ∨ (nb = 256 ∧ ng ≤ 1048576 ∧ nu ≤ 1048576 ∧ ng ≠ nu ∧ gaE nb ng nu = 80) ∨ (nb = 256 ∧ ng ≤ 1048576 ∧ ng = nu ∧ gaE nb ng nu = 0) := by
  unfold gaE
  by_cases h1 : nb = 256
  · rw [if_neg (by omega)]
    by_cases h2 : 1048576 < ng
    · rw [if_pos (.inl h2)]; omega
    · by_cases h3 : 1048576 < nu
      · rw [if_pos (.inr h3)]; omega
      · rw [if_neg (by omega)]
        by_cases h4 : ng = nu
        · rw [if_neg (by omega)]; omega
        · rw [if_pos h4]; omega
  · rw [if_pos h1]; omega
theorem gaL_c8 (b g u : List Int) : ∀ z ∈ gaL b g u, C8 z := by
  intro z hz
  unfold gaL at hz
  split at hz
  · obtain ⟨i, _, rfl⟩ := mkL_mem hz
    have := clamp_bound (rdQ (b.getD (plN (g.getD i 0)) 0 * u.getD i 0) 6)
    unfold gaF C8
    omega
  · cases hz
theorem gaL_len (b g u : List Int) : (gaL b g u).length ≤ 1048576 := by
  unfold gaL
  split
  · rename_i h
    rw [mkL_len]
    exact (gaE_zero h).2.1
  · simp
end Go.Proofs.YtbppahmcjifflaaDoor
