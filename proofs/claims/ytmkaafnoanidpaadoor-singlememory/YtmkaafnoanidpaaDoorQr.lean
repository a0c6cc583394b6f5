/-
  The document's Quantise.
-/
import Derived.Test.YtmkaafnoanidpaaDoorAt
namespace Go.Proofs.YtmkaafnoanidpaaDoor
open Go.RowKit Ieee

theorem room_iff (s : Int) (bs : List Nat) (hf : ∀ b ∈ bs, bE b ≠ 255) (hg : gm bs bs.length < 2139095040) : Room s bs ↔ whl (gm bs bs.length) s ≤ 127 := by
  constructor
  · intro h
    rcases gm_mem bs bs.length (Nat.le_refl _) with h0 | ⟨b, hb, h0⟩
    · rw [h0, whl_zero]; omega
    · rw [h0, whl_low]; exact h b hb
  · intro h b hb
    refine Nat.le_trans (nst_mono (hf b hb) (low_fin hg).1 s ?_) h
    rw [Nat.mod_eq_of_lt (gm_lt _ _)]
    exact gm_all hb
theorem gm_fin (bs : List Nat) (hf : ∀ b ∈ bs, bE b ≠ 255) : gm bs bs.length < 2139095040 := by
  rcases gm_mem bs bs.length (Nat.le_refl _) with h0 | ⟨b, hb, h0⟩
  · rw [h0]; decide
  · have h1 := low_eq b
    have h2 := bF_lt b
    have h3 := bE_lt b
    have := hf b hb
    rw [h0, h1]
    omega
theorem gm_inf {bs : List Nat} {b : Nat} (hb : b ∈ bs) (h : bE b = 255) : 2139095040 ≤ gm bs bs.length := by
  have h1 := gm_all hb
  rw [low_eq, h] at h1
  omega
theorem mt_zero {b : Nat} (hf : bE b ≠ 255) (h : mt b = 0) : b % 2147483648 = 0 := by
  have h1 := low_eq b
  unfold mt at h
  rw [if_neg hf] at h
  split at h <;> omega
theorem gm_zero (bs : List Nat) (hf : ∀ b ∈ bs, bE b ≠ 255) (h : ∀ b ∈ bs, mt b = 0) : gm bs bs.length = 0 := by
  rcases gm_mem bs bs.length (Nat.le_refl _) with h0 | ⟨b, hb, h0⟩
  · exact h0
  · rw [h0]; exact mt_zero (hf b hb) (h b hb)
theorem gm_some (bs : List Nat) (hf : ∀ b ∈ bs, bE b ≠ 255) (h : ¬ ∀ b ∈ bs, mt b = 0) : gm bs bs.length ≠ 0 := fun e => h fun b hb => by
  have h1 := gm_all hb
  rw [e, low_eq] at h1
  have := hf b hb
  unfold mt
  rw [if_neg this]
  split <;> omega
/-- The first j are zeros. -/
def az (bs : List Nat) (j : Nat) : Bool := (bs.take j).all fun b => decide (mt b = 0)
theorem az_succ (bs : List Nat) {j : Nat} (h : j < bs.length) : az bs (j + 1) = (az bs j && decide (mt (bs.getD j 0) = 0)) := by
  unfold az
  rw [List.take_succ_eq_append_getElem h, List.all_append, List.getD_eq_getElem?_getD, List.getElem?_eq_getElem h]
  simp

theorem q8s_map (s : Int) (bs : List Nat) : q8s s bs = (bs.map (q8 s)).map (Value.int .i8) := by
  unfold q8s
  rw [List.map_map]
  rfl

end Go.Proofs.YtmkaafnoanidpaaDoor
