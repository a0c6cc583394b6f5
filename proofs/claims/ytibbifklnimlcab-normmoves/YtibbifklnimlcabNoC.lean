/-
  Numbers of layer 9: rows about their mean, the greatest size.
-/
import Derived.Test.YtibbifklnimlcabNoN
import Derived.Test.YtibbifklnimlcabFsm
import Derived.Test.YtibbifklnimlcabFam
namespace Go.Proofs.Ytibbifklnimlcab
open Go.RowKit

theorem tot_bound {zs : List Int} (h : ∀ j, Rc (zs.getD j 0)) : ∀ k : Nat, -(268435456 * (k : Int)) ≤ tot zs k ∧ tot zs k ≤ 268435456 * (k : Int)
  | 0 => by simp [tot]
  | k + 1 => by
    have h1 := tot_bound h k
    obtain ⟨a, b⟩ := h k
    simp only [tot]
    omega
theorem getD_rc {zs : List Int} (h : ∀ z ∈ zs, Rc z) (j : Nat) : Rc (zs.getD j 0) := by
  rcases Nat.lt_or_ge j zs.length with e | e
  · exact getD_all e h
  · rw [List.getD_eq_getElem?_getD, List.getElem?_eq_none e]; exact ⟨by decide, by decide⟩
/-- The mean, rounded down. -/
def mN (zs : List Int) : Int := tot zs zs.length / (zs.length : Int)
theorem mN_bound {zs : List Int} (h1 : 1 ≤ zs.length) (h : ∀ z ∈ zs, Rc z) : Rc (mN zs) := by
  obtain ⟨a, b⟩ := tot_bound (getD_rc h) zs.length
  refine ⟨?_, ?_⟩
  · exact Int.le_ediv_of_mul_le (by omega) (by omega)
  · exact Int.ediv_le_of_le_mul (by omega) b
/-- A row about its mean. -/
def ceF (zs : List Int) (i : Nat) : Int := zs.getD i 0 - mN zs
def ceL (zs : List Int) : List Int := mkL zs.length (ceF zs)
theorem ceL_len (zs : List Int) : (ceL zs).length = zs.length := mkL_len _ _
theorem ceL_get {zs : List Int} {i : Nat} (h : i < zs.length) : (ceL zs).getD i 0 = ceF zs i := mkL_get h
theorem ceF_bound {zs : List Int} (h1 : 1 ≤ zs.length) (h : ∀ z ∈ zs, Rc z) (i : Nat) : -536870912 ≤ ceF zs i ∧ ceF zs i ≤ 536870912 := by
  obtain ⟨a, b⟩ := mN_bound h1 h
  obtain ⟨c, d⟩ := getD_rc h i
  unfold ceF
  omega
theorem ceL_fit {zs : List Int} (h1 : 1 ≤ zs.length) (h : ∀ z ∈ zs, Rc z) : ∀ z ∈ ceL zs, Fit .i64 z := fun z hz => by
  obtain ⟨i, _, rfl⟩ := mkL_mem hz
  have := ceF_bound h1 h i
  exact ⟨by omega, by omega⟩
/-- What Center answers. -/
def coL (zs : List Int) : List Int := if nE zs = 0 then ceL zs else []
def coM (zs : List Int) : Int := if nE zs = 0 then mN zs else 0
theorem coL_len (zs : List Int) : (coL zs).length ≤ 64 := by
  unfold coL
  split
  · rename_i h
    rw [ceL_len]
    exact (nE_zero h).2.1
  · simp
theorem coL_fit (zs : List Int) : ∀ z ∈ coL zs, Fit .i64 z := by
  unfold coL
  split
  · rename_i h
    exact ceL_fit (nE_zero h).1 (nE_zero h).2.2
  · intro z hz; cases hz
/-- What Layer answers. -/
def laE (zs gs bs : List Int) : Int := if zs.length ≠ gs.length ∨ zs.length ≠ bs.length then 1 else if nE zs ≠ 0 then nE zs else reE (ceL zs)
def laF (zs gs bs : List Int) (i : Nat) : Int := clamp (gN (ceF zs i) (rt (ceL zs)) (gs.getD i 0) + bs.getD i 0) (-127) 127
def laL (zs gs bs : List Int) : List Int := if laE zs gs bs = 0 then mkL zs.length (laF zs gs bs) else []
theorem laE_len {zs gs bs : List Int} (h : zs.length ≠ gs.length ∨ zs.length ≠ bs.length) : laE zs gs bs = 1 := if_pos h
theorem laE_n {zs gs bs : List Int} (h : ¬ (zs.length ≠ gs.length ∨ zs.length ≠ bs.length)) (h0 : nE zs ≠ 0) : laE zs gs bs = nE zs := by unfold laE; rw [if_neg h, if_pos h0]
theorem laE_c {zs gs bs : List Int} (h : ¬ (zs.length ≠ gs.length ∨ zs.length ≠ bs.length)) (h0 : nE zs = 0) : laE zs gs bs = reE (ceL zs) := by unfold laE; rw [if_neg h, if_neg (by omega)]
theorem laL_bad {zs gs bs : List Int} (h : laE zs gs bs ≠ 0) : laL zs gs bs = [] := if_neg h
theorem laL_ok {zs gs bs : List Int} (h : laE zs gs bs = 0) : laL zs gs bs = mkL zs.length (laF zs gs bs) := if_pos h
theorem laE_zero {zs gs bs : List Int} (h : laE zs gs bs = 0) : zs.length = gs.length ∧ zs.length = bs.length ∧ nE zs = 0 ∧ reE (ceL zs) = 0 := by
  unfold laE at h
  split at h
  · cases h
  · split at h
    · contradiction
    · exact ⟨by omega, by omega, by omega, h⟩
theorem laL_len (zs gs bs : List Int) : (laL zs gs bs).length ≤ 64 := by
  unfold laL
  split
  · rename_i h
    rw [mkL_len]
    exact (nE_zero (laE_zero h).2.2.1).2.1
  · simp
theorem laL_fit (zs gs bs : List Int) : ∀ z ∈ laL zs gs bs, Fit .i8 z := by
  intro z hz
  unfold laL at hz
  split at hz
  · obtain ⟨i, _, rfl⟩ := mkL_mem hz
    have := clamp_bound (gN (ceF zs i) (rt (ceL zs)) (gs.getD i 0) + bs.getD i 0)
    exact ⟨by unfold laF; omega, by unfold laF; omega⟩
  · cases hz
theorem nE_ce {zs : List Int} (h0 : nE zs = 0) : nE (ceL zs) = reE (ceL zs) := by
  obtain ⟨h1, h2, _⟩ := nE_zero h0
  exact nE_re (by rw [ceL_len]; omega)
/-- The sizes of a row. -/
def szF (zs : List Int) (i : Nat) : Int := ((zs.getD i 0).natAbs : Int)
def szL (zs : List Int) : List Int := mkL zs.length (szF zs)
theorem szL_len (zs : List Int) : (szL zs).length = zs.length := mkL_len _ _
theorem szL_get {zs : List Int} {i : Nat} (h : i < zs.length) : (szL zs).getD i 0 = szF zs i := mkL_get h
theorem szL_fit {zs : List Int} (h : ∀ z ∈ zs, Rc z) : ∀ z ∈ szL zs, Fit .i64 z := fun z hz => by
  obtain ⟨i, _, rfl⟩ := mkL_mem hz
  obtain ⟨a, b⟩ := getD_rc h i
  exact ⟨by unfold szF; omega, by unfold szF; omega⟩
/-- What Largest answers. -/
def lgA (zs : List Int) : Int := if nE zs = 0 then am (szL zs) zs.length else 0
def lgV (zs : List Int) : Int := if nE zs = 0 then (szL zs).getD (am (szL zs) zs.length).toNat 0 else 0
/-- The greatest size so far, and its place. -/
def lgS (zs : List Int) (j : Nat) : Int := if j = 0 then -1 else (szL zs).getD (am (szL zs) j).toNat 0
def lgP (zs : List Int) (j : Nat) : Int := if j = 0 then 0 else am (szL zs) j
theorem am_pos (l : List Int) : ∀ k, 1 ≤ k → 0 ≤ am l k ∧ am l k < k
  | 0, h => by omega
  | k + 1, _ => by
    have hb := am_bound l (k + 1)
    have h : 0 ≤ am l (k + 1) := by
      unfold am
      split <;> omega
    omega
theorem lg_next {zs : List Int} {j : Nat} (hj : j < zs.length) : (lgS zs j < szF zs j → lgS zs (j + 1) = szF zs j ∧ lgP zs (j + 1) = j) ∧ (¬ lgS zs j < szF zs j → lgS zs (j + 1) = lgS zs j ∧ lgP zs (j + 1) = lgP zs j) := by
  unfold lgS lgP
  rw [if_neg (show ¬ j + 1 = 0 by omega), if_neg (show ¬ j + 1 = 0 by omega)]
  rcases Nat.eq_zero_or_pos j with e | e
  · subst e
    rw [if_pos rfl, if_pos rfl]
    have e1 : am (szL zs) (0 + 1) = 0 := by unfold am; rw [if_pos (.inl (by simp [am]))]; rfl
    rw [e1]
    refine ⟨fun _ => ⟨?_, rfl⟩, fun h => ?_⟩
    · show (szL zs).getD 0 0 = _
      exact szL_get hj
    · exfalso
      apply h
      unfold szF
      omega
  · rw [if_neg (by omega), if_neg (by omega)]
    obtain ⟨p0, p1⟩ := am_pos (szL zs) j e
    refine ⟨fun h => ?_, fun h => ?_⟩
    · have e1 : am (szL zs) (j + 1) = j := by
        rw [am, if_pos (.inr (by rw [szL_get hj]; exact h))]
      rw [e1, Int.toNat_natCast, szL_get hj]
      exact ⟨rfl, rfl⟩
    · have e1 : am (szL zs) (j + 1) = am (szL zs) j := by
        rw [am, if_neg (by rw [szL_get hj]; omega)]
      rw [e1]
      exact ⟨rfl, rfl⟩
theorem lg_bound {zs : List Int} (h : ∀ z ∈ zs, Rc z) {j : Nat} (hj : j ≤ zs.length) : -1 ≤ lgS zs j ∧ lgS zs j ≤ 268435456 ∧ 0 ≤ lgP zs j ∧ lgP zs j ≤ j := by
  unfold lgS lgP
  rcases Nat.eq_zero_or_pos j with e | e
  · subst e
    rw [if_pos rfl, if_pos rfl]
    omega
  · rw [if_neg (by omega), if_neg (by omega)]
    obtain ⟨p0, p1⟩ := am_pos (szL zs) j e
    rw [szL_get (by omega)]
    obtain ⟨a, b⟩ := getD_rc h (am (szL zs) j).toNat
    unfold szF
    omega
theorem lg_end {zs : List Int} (h0 : nE zs = 0) : lgV zs = lgS zs zs.length ∧ lgA zs = lgP zs zs.length := by
  obtain ⟨h1, _⟩ := nE_zero h0
  unfold lgV lgA lgS lgP
  rw [if_pos h0, if_pos h0, if_neg (by omega), if_neg (by omega)]
  exact ⟨rfl, rfl⟩
end Go.Proofs.Ytibbifklnimlcab
