/-
  Numbers of layer 9: a number added to all of a row; the sum of a row about its mean.
-/
import Derived.Test.YtibbifklnimlcabNoC
namespace Go.Proofs.Ytibbifklnimlcab
open Go.RowKit

/-- The moved row. -/
def mvF (zs : List Int) (by_ : Int) (i : Nat) : Int := zs.getD i 0 + by_
def mv (zs : List Int) (by_ : Int) : List Int := mkL zs.length (mvF zs by_)
theorem mv_len (zs : List Int) (b : Int) : (mv zs b).length = zs.length := mkL_len _ _
theorem mv_get {zs : List Int} {b : Int} {i : Nat} (h : i < zs.length) : (mv zs b).getD i 0 = zs.getD i 0 + b := mkL_get h
theorem mv_fit {zs : List Int} {b : Int} (h : ∀ z ∈ zs, Rc z) (hb : Rc b) : ∀ z ∈ mv zs b, Fit .i64 z := fun z hz => by
  obtain ⟨i, _, rfl⟩ := mkL_mem hz
  obtain ⟨x0, x1⟩ := getD_rc h i
  obtain ⟨b0, b1⟩ := hb
  exact ⟨by unfold mvF; omega, by unfold mvF; omega⟩
theorem mv_tot {zs : List Int} (b : Int) : ∀ k : Nat, k ≤ zs.length → tot (mv zs b) k = tot zs k + b * (k : Int)
  | 0, _ => by simp [tot]
  | k + 1, h => by
    have ih := mv_tot (zs := zs) b k (by omega)
    simp only [tot]
    rw [ih, mv_get (by omega), Int.natCast_succ, Int.mul_add, Int.mul_one]
    omega
theorem mv_mean {zs : List Int} (b : Int) (h1 : 1 ≤ zs.length) : mN (mv zs b) = mN zs + b := by
  unfold mN
  rw [mv_len, mv_tot b _ (Nat.le_refl _), Int.add_mul_ediv_right _ _ (by omega)]
theorem mv_ce {zs : List Int} (b : Int) (h1 : 1 ≤ zs.length) : ceL (mv zs b) = ceL zs := by
  apply List.ext_getElem
  · rw [ceL_len, ceL_len, mv_len]
  · intro i h2 h3
    have hi : i < zs.length := by rw [ceL_len] at h3; exact h3
    have e1 : (ceL (mv zs b))[i] = (ceL (mv zs b)).getD i 0 := (getD_getElem h2).symm
    have e2 : (ceL zs)[i] = (ceL zs).getD i 0 := (getD_getElem h3).symm
    rw [e1, e2, ceL_get (by rw [mv_len]; exact hi), ceL_get hi]
    unfold ceF
    rw [mv_get hi, mv_mean b h1]
    omega
/-- What Center and Layer answer of a moved row, where neither is refused. -/
theorem mv_all {zs : List Int} {b : Int} (gs bs : List Int) (h0 : nE zs = 0) (h9 : nE (mv zs b) = 0) : coL (mv zs b) = coL zs ∧ coM (mv zs b) = coM zs + b ∧ laE (mv zs b) gs bs = laE zs gs bs ∧ laL (mv zs b) gs bs = laL zs gs bs := by
  have h1 := (nE_zero h0).1
  have e0 := mv_ce b h1
  have hE : laE (mv zs b) gs bs = laE zs gs bs := by unfold laE; rw [h0, h9, e0, mv_len]
  refine ⟨?_, ?_, hE, ?_⟩
  · unfold coL; rw [if_pos h0, if_pos h9, e0]
  · unfold coM; rw [if_pos h0, if_pos h9, mv_mean b h1]
  · unfold laL
    rw [hE, mv_len]
    split
    · unfold mkL
      apply List.map_congr_left
      intro i hi
      have hi' : i < zs.length := by simpa using hi
      unfold laF
      rw [← ceL_get hi', ← ceL_get (zs := mv zs b) (by rw [mv_len]; exact hi'), e0]
    · rfl
theorem ce_tot {zs : List Int} : ∀ k : Nat, k ≤ zs.length → tot (ceL zs) k = tot zs k - mN zs * (k : Int)
  | 0, _ => by simp [tot]
  | k + 1, h => by
    have ih := ce_tot (zs := zs) k (by omega)
    simp only [tot]
    rw [ih, ceL_get (by omega), Int.natCast_succ, Int.mul_add, Int.mul_one]
    unfold ceF
    omega
/-- The numbers of a row about its mean sum to less than how many there are. -/
theorem ce_sum {zs : List Int} (h1 : 1 ≤ zs.length) : 0 ≤ tot (ceL zs) zs.length ∧ tot (ceL zs) zs.length < (zs.length : Int) := by
  rw [ce_tot _ (Nat.le_refl _)]
  unfold mN
  have e := Int.mul_ediv_add_emod (tot zs zs.length) (zs.length : Int)
  have b1 : 0 ≤ tot zs zs.length % (zs.length : Int) := Int.emod_nonneg _ (by omega)
  have b2 : tot zs zs.length % (zs.length : Int) < zs.length := Int.emod_lt_of_pos _ (by omega)
  rw [Int.mul_comm]
  omega
theorem ce_step {zs : List Int} (h1 : 1 ≤ zs.length) (h : ∀ z ∈ zs, Rc z) : ∀ k : Nat, k ≤ zs.length → -(536870912 * (k : Int)) ≤ tot (ceL zs) k ∧ tot (ceL zs) k ≤ 536870912 * (k : Int)
  | 0, _ => by simp [tot]
  | k + 1, hk => by
    have ih := ce_step h1 h k (by omega)
    have hb := ceF_bound h1 h k
    simp only [tot]
    rw [ceL_get (by omega)]
    omega
end Go.Proofs.Ytibbifklnimlcab
