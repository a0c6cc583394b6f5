/-
  Numbers of layer 9: what becomes of a negated row.
-/
import Derived.Test.YtibbifklnimlcaaNoN
namespace Go.Proofs.Ytibbifklnimlcaa
open Go.RowKit

theorem near_neg (x : Int) : near (-x) 64 = - near x 64 := by
  unfold near
  split <;> split <;> omega
theorem clamp_neg (x : Int) : clamp (-x) (-127) 127 = - clamp x (-127) 127 := by
  unfold clamp
  split <;> split <;> (try split) <;> (try split) <;> omega
theorem gN_neg (x : Int) (r : Nat) (g : Int) : gN (-x) r g = - gN x r g := by
  unfold gN
  rw [gt_neg, Int.neg_mul, near_neg]
/-- The negated row. -/
def dnF (zs : List Int) (i : Nat) : Int := - zs.getD i 0
def dn (zs : List Int) : List Int := mkL zs.length (dnF zs)
theorem dn_len (zs : List Int) : (dn zs).length = zs.length := mkL_len _ _
theorem dn_map (zs : List Int) : dn zs = zs.map (fun z => -z) := by
  apply List.ext_getElem
  · simp [dn, mkL]
  · intro i h1 h2
    have h3 : i < zs.length := by rw [dn_len] at h1; exact h1
    simp [dn, dnF, mkL, List.getD_eq_getElem?_getD, List.getElem?_eq_getElem h3]
theorem dn_get {zs : List Int} {i : Nat} (h : i < zs.length) : (dn zs).getD i 0 = - zs.getD i 0 := mkL_get h
theorem dn_rc {zs : List Int} (h : ∀ z ∈ zs, Rc z) : ∀ z ∈ dn zs, Rc z := by
  rw [dn_map]
  intro z hz
  obtain ⟨y, hy, rfl⟩ := List.mem_map.1 hz
  have := h y hy
  exact ⟨by have := this.2; omega, by have := this.1; omega⟩
theorem dn_nE {zs : List Int} (h : ∀ z ∈ zs, Rc z) : nE (dn zs) = nE zs := by
  unfold nE
  rw [dn_len, reE_ok h, reE_ok (dn_rc h)]
theorem dn_roE {zs : List Int} (gs : List Int) (h : ∀ z ∈ zs, Rc z) : roE (dn zs) gs = roE zs gs := by
  unfold roE
  rw [dn_len, dn_nE h]
theorem dot_neg : ∀ zs : List Int, dotN (zs.map (fun z => -z)) (zs.map (fun z => -z)) = dotN zs zs
  | [] => rfl
  | x :: r => by simp only [List.map_cons, dotN, dot_neg r, Int.neg_mul_neg]
theorem dn_rt (zs : List Int) : rt (dn zs) = rt zs := by
  have e : sqN (dn zs) = sqN zs := by rw [dn_map]; exact dot_neg zs
  unfold rt mnN
  rw [e, dn_len]
theorem dn_noF {zs : List Int} (gs : List Int) {i : Nat} (h : i < zs.length) : noF (dn zs) gs i = - noF zs gs i := by
  unfold noF
  rw [dn_rt, dn_get h, gN_neg, clamp_neg]
/-- Row of the negated row. -/
theorem dn_roL {zs : List Int} (gs : List Int) (h : ∀ z ∈ zs, Rc z) : (roL (dn zs) gs).length = (roL zs gs).length ∧ ∀ i, i < (roL zs gs).length → (roL (dn zs) gs).getD i 0 = - (roL zs gs).getD i 0 := by
  unfold roL
  rw [dn_roE gs h]
  split
  · rw [mkL_len, mkL_len, dn_len]
    refine ⟨rfl, fun i hi => ?_⟩
    rw [mkL_get hi, mkL_get hi, dn_noF gs hi]
  · exact ⟨rfl, fun i hi => by simp at hi⟩
theorem dn_fit {zs : List Int} (h : ∀ z ∈ zs, Rc z) : ∀ z ∈ dn zs, Fit .i64 z := fun z hz => by
  have := dn_rc h z hz
  exact ⟨by have := this.1; omega, by have := this.2; omega⟩
end Go.Proofs.Ytibbifklnimlcaa
