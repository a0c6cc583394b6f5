/-
  Numbers of layer 11: the greatest score, weights of scores, means by weights.
-/
import Derived.Test.YtkolpdfakhlkeaaDoorSfm
import Derived.Test.YtkolpdfakhlkeaaDoorMkL
import Derived.Test.YtkolpdfakhlkeaaDoorFsm
namespace Go.Proofs.YtkolpdfakhlkeaaDoor
open Go.RowKit

/-- The greatest of the first k; the first one, if k is 0. -/
def tp (zs : List Int) : Nat → Int
  | 0 => zs.getD 0 0
  | k + 1 => max (tp zs k) (zs.getD k 0)
theorem tp_le (zs : List Int) : ∀ (k i : Nat), i < k → zs.getD i 0 ≤ tp zs k
  | k + 1, i, h => by
    have e : tp zs (k + 1) = max (tp zs k) (zs.getD k 0) := rfl
    by_cases hk : i = k
    · subst hk; rw [e]; omega
    · have := tp_le zs k i (by omega)
      rw [e]; omega
theorem tp_i64 {zs : List Int} (h : ∀ i, I64 (zs.getD i 0)) : ∀ k, I64 (tp zs k)
  | 0 => h 0
  | k + 1 => by
    have h1 := tp_i64 h k
    have h2 := h k
    have e : tp zs (k + 1) = max (tp zs k) (zs.getD k 0) := rfl
    rw [e]
    unfold I64 at *
    omega
theorem tp_one (zs : List Int) : tp zs 1 = zs.getD 0 0 := by
  have e : tp zs 1 = max (zs.getD 0 0) (zs.getD 0 0) := rfl
  rw [e]; omega
/-- A score less the greatest, 2^40 below it at least. -/
def dsN (s m : Int) : Int := max (s - m) (-1099511627776)
/-- What a score weighs. -/
def wt (s m : Int) : Int := exp2 (256 * dsN s m)
theorem wt_bound (s m : Int) : 0 ≤ wt s m ∧ wt s m ≤ 1073741824 := ⟨exp2_nonneg _, exp2_le _⟩
theorem wt_mono {s t m : Int} (h : s ≤ t) : wt s m ≤ wt t m := exp2_mono (by unfold dsN; omega)
/-- The weights of scores. -/
def wF (zs : List Int) (i : Nat) : Int := wt (zs.getD i 0) (tp zs zs.length)
def wL (zs : List Int) : List Int := mkL zs.length (wF zs)
def wE (n : Nat) : Int := if 1 ≤ n ∧ n ≤ 512 then 0 else 1
def woL (zs : List Int) : List Int := if wE zs.length = 0 then wL zs else []
theorem wE_ok {n : Nat} (h1 : 1 ≤ n) (h2 : n ≤ 512) : wE n = 0 := if_pos ⟨h1, h2⟩
theorem wE_bad {n : Nat} (h : n < 1 ∨ 512 < n) : wE n = 1 := if_neg (by omega)
theorem wE_zero {n : Nat} (h : wE n = 0) : 1 ≤ n ∧ n ≤ 512 := by
  unfold wE at h
  split at h
  · assumption
  · cases h
theorem woL_ok {zs : List Int} (h1 : 1 ≤ zs.length) (h2 : zs.length ≤ 512) : woL zs = wL zs := by unfold woL; rw [if_pos (wE_ok h1 h2)]
theorem woL_bad {zs : List Int} (h : zs.length < 1 ∨ 512 < zs.length) : woL zs = [] := by unfold woL; rw [if_neg (by rw [wE_bad h]; decide)]
theorem wL_len (zs : List Int) : (wL zs).length = zs.length := mkL_len _ _
theorem woL_len (zs : List Int) : (woL zs).length ≤ 512 := by
  unfold woL
  split
  · rename_i h; rw [wL_len]; exact (wE_zero h).2
  · simp
theorem wL_mem {zs : List Int} {z : Int} (h : z ∈ wL zs) : 0 ≤ z ∧ z ≤ 1073741824 := by
  obtain ⟨i, _, rfl⟩ := mkL_mem h
  exact wt_bound _ _
theorem woL_mem {zs : List Int} {z : Int} (h : z ∈ woL zs) : 0 ≤ z ∧ z ≤ 1073741824 := by
  unfold woL at h
  split at h
  · exact wL_mem h
  · cases h
theorem woL_fit (zs : List Int) : ∀ z ∈ woL zs, Fit .i64 z := fun z hz => by
  have := woL_mem hz
  exact ⟨by omega, by omega⟩
theorem woL_room (zs : List Int) : (woL zs).length * kb .i64 ≤ 140737488351232 := by
  have := woL_len zs
  simp [kb]; omega

/-- Weights. -/
def okW (w : List Int) : Bool := w.all (fun z => decide (0 ≤ z ∧ z ≤ 1073741824))
theorem okW_get {w : List Int} (h : okW w = true) (i : Nat) : 0 ≤ w.getD i 0 ∧ w.getD i 0 ≤ 1073741824 := by
  rcases Nat.lt_or_ge i w.length with e | e
  · rw [getD_getElem e]
    have := List.all_eq_true.1 h _ (List.getElem_mem e)
    exact of_decide_eq_true this
  · rw [List.getD_eq_getElem?_getD, List.getElem?_eq_none e]; exact ⟨by simp, by simp⟩
theorem okW_not {w : List Int} {i : Nat} (hi : i < w.length) (h : w.getD i 0 < 0 ∨ 1073741824 < w.getD i 0) : okW w = false := by
  rw [getD_getElem hi] at h
  unfold okW
  rw [List.all_eq_false]
  exact ⟨_, List.getElem_mem hi, by simp only [decide_eq_true_eq]; omega⟩
theorem okW_of {w : List Int} (h : ∀ i, i < w.length → 0 ≤ w.getD i 0 ∧ w.getD i 0 ≤ 1073741824) : okW w = true := by
  unfold okW
  rw [List.all_eq_true]
  intro z hz
  obtain ⟨i, hi, rfl⟩ := List.getElem_of_mem hz
  rw [← getD_getElem hi]
  exact decide_eq_true (h i hi)
theorem tot_bound {w : List Int} (h : ∀ i, 0 ≤ w.getD i 0 ∧ w.getD i 0 ≤ 1073741824) : ∀ k : Nat, 0 ≤ tot w k ∧ tot w k ≤ 1073741824 * (k : Int)
  | 0 => by simp [tot]
  | k + 1 => by
    have h1 := tot_bound h k
    have h2 := h k
    have e : tot w (k + 1) = tot w k + w.getD k 0 := rfl
    rw [e]; omega
theorem tot_mono {w : List Int} (h : ∀ i, 0 ≤ w.getD i 0 ∧ w.getD i 0 ≤ 1073741824) {j k : Nat} (hjk : j ≤ k) : tot w j ≤ tot w k := by
  induction k with
  | zero => rw [show j = 0 by omega]; omega
  | succ k ih =>
    by_cases e : j = k + 1
    · rw [e]; omega
    · have h1 := ih (by omega)
      have h2 := h k
      have e : tot w (k + 1) = tot w k + w.getD k 0 := rfl
      rw [e]; omega
/-- The first k products. -/
def dt (w v : List Int) : Nat → Int
  | 0 => 0
  | k + 1 => dt w v k + w.getD k 0 * v.getD k 0
theorem dt_bound {w v : List Int} (h : ∀ i, 0 ≤ w.getD i 0 ∧ w.getD i 0 ≤ 1073741824) (hv : ∀ i, C8 (v.getD i 0)) : ∀ k : Nat, -128 * tot w k ≤ dt w v k ∧ dt w v k ≤ 127 * tot w k
  | 0 => by simp [tot, dt]
  | k + 1 => by
    have h1 := dt_bound h hv k
    obtain ⟨h2, _⟩ := h k
    obtain ⟨c1, c2⟩ := hv k
    have e : tot w (k + 1) = tot w k + w.getD k 0 := rfl
    have e' : dt w v (k + 1) = dt w v k + w.getD k 0 * v.getD k 0 := rfl
    have m1 := Int.mul_le_mul_of_nonneg_left c1 h2
    have m2 := Int.mul_le_mul_of_nonneg_left c2 h2
    rw [e, e']; omega
/-- What is wrong with weights of n things. -/
def meE (w : List Int) (n : Nat) : Int := if w.length ≠ n ∨ 512 < n then 1 else if okW w = false ∨ tot w w.length = 0 then 110 else 0
theorem meE_arg {w : List Int} {n : Nat} (h : w.length ≠ n ∨ 512 < n) : meE w n = 1 := if_pos h
theorem meE_mean {w : List Int} {n : Nat} (h0 : w.length = n) (h1 : n ≤ 512) (h : okW w = false ∨ tot w w.length = 0) : meE w n = 110 := by unfold meE; rw [if_neg (by omega), if_pos h]
theorem meE_ok {w : List Int} {n : Nat} (h0 : w.length = n) (h1 : n ≤ 512) (h : okW w = true) (h2 : tot w w.length ≠ 0) : meE w n = 0 := by
  unfold meE
  rw [if_neg (by omega), if_neg]
  rintro (e | e)
  · rw [h] at e; cases e
  · exact h2 e
theorem meE_zero {w : List Int} {n : Nat} (h : meE w n = 0) : w.length = n ∧ n ≤ 512 ∧ okW w = true ∧ tot w w.length ≠ 0 := by
  unfold meE at h
  split at h
  · cases h
  · split at h
    · cases h
    · rename_i h1 h2
      refine ⟨by omega, by omega, ?_, fun e => h2 (.inr e)⟩
      cases hk : okW w
      · exact absurd (.inl hk) h2
      · rfl
theorem meE_cases (w : List Int) (n : Nat) : meE w n = 0 ∨ meE w n = 1 ∨ meE w n = 110 := by
  unfold meE
  split
  · exact .inr (.inl rfl)
  · split
    · exact .inr (.inr rfl)
    · exact .inl rfl
/-- The mean. -/
def meF (w v : List Int) : Int := (2 * dt w v w.length + tot w w.length) / (2 * tot w w.length)
def meV (w v : List Int) : Int := if meE w v.length = 0 then meF w v else 0
theorem meV_bad {w v : List Int} (h : meE w v.length ≠ 0) : meV w v = 0 := if_neg h
theorem meV_ok {w v : List Int} (h : meE w v.length = 0) : meV w v = meF w v := if_pos h
theorem mean_div {d s m : Int} (hs : 0 < s) (hm : (2 * d + s) / (2 * s) = m) : -s ≤ 2 * (d - m * s) ∧ 2 * (d - m * s) < s := by
  have h1 := Int.emod_add_mul_ediv (2 * d + s) (2 * s)
  have h2 := Int.emod_nonneg (2 * d + s) (show 2 * s ≠ 0 by omega)
  have h3 := Int.emod_lt_of_pos (2 * d + s) (show 0 < 2 * s by omega)
  rw [hm] at h1
  have e : 2 * s * m = 2 * (m * s) := by rw [Int.mul_assoc, Int.mul_comm s m]
  rw [e] at h1
  omega
theorem mean_between {d s m lo hi : Int} (hs : 0 < s) (hm : (2 * d + s) / (2 * s) = m) (h1 : lo * s ≤ d) (h2 : d ≤ hi * s) : lo ≤ m ∧ m ≤ hi := by
  obtain ⟨a, b⟩ := mean_div hs hm
  constructor
  · rcases Int.lt_or_le m lo with h | h
    · exfalso
      have h3 : m + 1 ≤ lo := by omega
      have := Int.mul_le_mul_of_nonneg_right h3 (Int.le_of_lt hs)
      rw [Int.add_mul, Int.one_mul] at this
      omega
    · exact h
  · rcases Int.lt_or_le hi m with h | h
    · exfalso
      have h3 : hi + 1 ≤ m := by omega
      have := Int.mul_le_mul_of_nonneg_right h3 (Int.le_of_lt hs)
      rw [Int.add_mul, Int.one_mul] at this
      omega
    · exact h
theorem meF_c8 {w v : List Int} (h : okW w = true) (hs : tot w w.length ≠ 0) (hv : ∀ i, C8 (v.getD i 0)) : C8 (meF w v) := by
  have hb := (tot_bound (okW_get h) w.length).1
  have hd := dt_bound (okW_get h) hv w.length
  exact mean_between (s := tot w w.length) (by omega) rfl hd.1 hd.2
theorem meV_c8 (w v : List Int) (hv : ∀ i, C8 (v.getD i 0)) : C8 (meV w v) := by
  unfold meV
  split
  · rename_i h
    obtain ⟨_, _, h1, h2⟩ := meE_zero h
    exact meF_c8 h1 h2 hv
  · exact ⟨by decide, by decide⟩
end Go.Proofs.YtkolpdfakhlkeaaDoor
