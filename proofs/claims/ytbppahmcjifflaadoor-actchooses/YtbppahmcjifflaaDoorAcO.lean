/-
  Numbers of greatest: places sorted by their scores.
-/
import Derived.Test.YtbppahmcjifflaaDoorAcq
import Derived.Test.YtbppahmcjifflaaDoorRkN
import Derived.Shelf.SlSortCmp.NoneTotal
namespace Go.Proofs.YtbppahmcjifflaaDoor
open Go.RowKit Go.Lib Go.Sort

/-- What the closure answers of two places. -/
def cfP (zs : List Int) (n : Nat) (x y : Fin n) : Int := cfN (zs.getD x.val 0) (zs.getD y.val 0) (x.val : Int) (y.val : Int)
theorem cfN_lt (a b x y : Int) : cfN a b x y < 0 ↔ b < a ∨ a = b ∧ x < y := by
  unfold cfN cmpI
  repeat' split
  all_goals omega
theorem ltP (zs : List Int) (n : Nat) (x y : Fin n) : ltOf (cfP zs n) x y = true ↔ Bf (fun i => zs.getD i 0) x.val y.val := by
  unfold ltOf cfP Bf
  rw [decide_eq_true_eq, cfN_lt]
  constructor
  · rintro (h | ⟨h1, h2⟩)
    · exact .inl h
    · exact .inr ⟨h1, by omega⟩
  · rintro (h | ⟨h1, h2⟩)
    · exact .inl h
    · exact .inr ⟨h1, by omega⟩
theorem ltP_false (zs : List Int) (n : Nat) (x y : Fin n) : ltOf (cfP zs n) x y = false ↔ ¬ Bf (fun i => zs.getD i 0) x.val y.val := by
  rw [← ltP zs n x y]
  cases ltOf (cfP zs n) x y <;> simp
theorem swoP (zs : List Int) (n : Nat) : SWO (ltOf (cfP zs n)) where
  irrefl x := by rw [ltP_false]; unfold Bf; omega
  trans x y z h1 h2 := by rw [ltP] at *; unfold Bf at *; omega
  ntrans x y z h1 h2 := by rw [ltP_false] at *; unfold Bf at *; omega
theorem totP (zs : List Int) (n : Nat) (x y : Fin n) (h1 : ltOf (cfP zs n) x y = false) (h2 : ltOf (cfP zs n) y x = false) : x = y := by
  rw [ltP_false] at h1 h2
  unfold Bf at h1 h2
  exact Fin.ext (by omega)
/-- The places, sorted. -/
def srt (zs : List Int) (n : Nat) : List (Fin n) := (List.finRange n).mergeSort (fun x y => !ltOf (cfP zs n) y x)
theorem srt_len (zs : List Int) (n : Nat) : (srt zs n).length = n := by unfold srt; rw [List.length_mergeSort, List.length_finRange]
theorem srt_ord (zs : List Int) (n : Nat) : IsOrd (fun i => zs.getD i 0) n ((srt zs n).map Fin.val) := by
  have hp : (srt zs n).Perm (List.finRange n) := List.mergeSort_perm _ _
  have hs := List.pairwise_mergeSort (le := fun x y => !ltOf (cfP zs n) y x) (fun x y z h1 h2 => by
      simp only [Bool.not_eq_true', ltP_false] at *
      unfold Bf at *
      omega) (fun x y => by
      simp only [Bool.or_eq_true, Bool.not_eq_true', ltP_false]
      unfold Bf
      omega) (List.finRange n)
  have hn : (srt zs n).Nodup := hp.nodup_iff.2 (List.nodup_finRange n)
  refine ⟨?_, ?_⟩
  · have := hp.map Fin.val
    rwa [show (List.finRange n).map Fin.val = List.range n from List.ext_getElem (by simp) (by intro i h1 h2; simp)] at this
  · rw [List.pairwise_map]
    refine (hs.and hn).imp ?_
    rintro x y ⟨h1, h2⟩
    simp only [Bool.not_eq_true', ltP_false] at h1
    unfold Bf at *
    have : x.val ≠ y.val := fun e => h2 (Fin.ext e)
    omega
end Go.Proofs.YtbppahmcjifflaaDoor
