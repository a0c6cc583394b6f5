/-
  Rows made by a rule.
-/
import Derived.Test.YtdponkpgokncdaaVcN
namespace Go.Proofs.Ytdponkpgokncdaa

/-- The row of f at 0, 1, .. -/
def mkL (n : Nat) (f : Nat → Int) : List Int := (List.range n).map f
theorem mkL_len (n : Nat) (f : Nat → Int) : (mkL n f).length = n := by simp [mkL]
theorem mkL_succ (n : Nat) (f : Nat → Int) : mkL (n + 1) f = mkL n f ++ [f n] := by simp [mkL, List.range_succ]
theorem mkL_get {n : Nat} {f : Nat → Int} {i : Nat} (h : i < n) : (mkL n f).getD i 0 = f i := by
  rw [List.getD_eq_getElem?_getD]; simp [mkL, h]
theorem mkL_mem {n : Nat} {f : Nat → Int} {z : Int} (h : z ∈ mkL n f) : ∃ i, i < n ∧ z = f i := by
  simp only [mkL, List.mem_map, List.mem_range] at h
  obtain ⟨i, h1, h2⟩ := h
  exact ⟨i, h1, h2.symm⟩
theorem mkL_take {zs : List Int} : mkL zs.length (fun i => zs.getD i 0) = zs := by
  apply List.ext_getElem
  · simp [mkL]
  · intro i h1 h2
    simp [mkL, List.getD_eq_getElem?_getD, List.getElem?_eq_getElem h2]
end Go.Proofs.Ytdponkpgokncdaa
