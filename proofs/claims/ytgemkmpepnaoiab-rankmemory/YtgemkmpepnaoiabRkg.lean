/-
  The numbers of shares: floors, remainders, what is missing, and one more for some places.
-/
import Derived.Test.YtgemkmpepnaoiabRkf
namespace Go.Proofs.Ytgemkmpepnaoiab
open Go.RowKit Go.Lib Go.Maps

def flL (zs : List Int) (T S : Int) : List Int := zs.map (fun z => z * T / S)
def rsL (zs : List Int) (T S : Int) : List Int := zs.map (fun z => z * T % S)
theorem flL_length (zs : List Int) (T S : Int) : (flL zs T S).length = zs.length := by simp [flL]
theorem rsL_length (zs : List Int) (T S : Int) : (rsL zs T S).length = zs.length := by simp [rsL]
theorem flL_get (zs : List Int) (T S : Int) (i : Nat) (h : i < zs.length) : (flL zs T S)[i]? = some (zs.getD i 0 * T / S) := by
  simp [flL, List.getD_eq_getElem?_getD, List.getElem?_eq_getElem h]
theorem rsL_get (zs : List Int) (T S : Int) (i : Nat) (h : i < zs.length) : (rsL zs T S)[i]? = some (zs.getD i 0 * T % S) := by
  simp [rsL, List.getD_eq_getElem?_getD, List.getElem?_eq_getElem h]
theorem fl_rs_sum (T S : Int) : ∀ zs : List Int, zs.sum * T = S * (flL zs T S).sum + (rsL zs T S).sum
  | [] => by simp [flL, rsL]
  | z :: r => by
    have h := fl_rs_sum T S r
    have e : z * T = S * (z * T / S) + z * T % S := (Int.mul_ediv_add_emod (z * T) S).symm
    simp only [flL, rsL, List.map_cons, List.sum_cons] at h ⊢
    rw [Int.add_mul, Int.mul_add, h]
    omega
theorem rs_bounds (T S : Int) (hS : 0 < S) : ∀ zs : List Int, 0 ≤ (rsL zs T S).sum ∧ (zs ≠ [] → (rsL zs T S).sum < S * zs.length) ∧ (rsL zs T S).sum ≤ S * zs.length
  | [] => by simp [rsL]
  | z :: r => by
    have h := rs_bounds T S hS r
    have h1 := Int.emod_nonneg (z * T) (show S ≠ 0 by omega)
    have h2 := Int.emod_lt_of_pos (z * T) hS
    simp only [rsL, List.map_cons, List.sum_cons, List.length_cons] at h ⊢
    have e : S * ((r.length + 1 : Nat) : Int) = S * r.length + S := by rw [Int.natCast_add, Int.mul_add]; simp
    rw [e]
    refine ⟨by omega, fun _ => by omega, by omega⟩
/-- What is missing: fewer than there are. -/
theorem missing_bounds {zs : List Int} {T : Int} (hS : 0 < zs.sum) : 0 ≤ T - (flL zs T zs.sum).sum ∧ T - (flL zs T zs.sum).sum < zs.length := by
  have hne : zs ≠ [] := fun e => by rw [e] at hS; simp at hS
  have h1 := fl_rs_sum T zs.sum zs
  obtain ⟨r0, r1, _⟩ := rs_bounds T zs.sum hS zs
  have r1 := r1 hne
  obtain ⟨M, hM⟩ : ∃ M, M = T - (flL zs T zs.sum).sum := ⟨_, rfl⟩
  have e : zs.sum * M = (rsL zs T zs.sum).sum := by rw [hM, Int.mul_sub, h1]; omega
  rw [← hM]
  generalize zs.sum = S at *
  constructor
  · rcases Int.lt_or_le M 0 with h | h
    · have := Int.mul_le_mul_of_nonneg_left (show M ≤ -1 by omega) (Int.le_of_lt hS)
      omega
    · exact h
  · rcases Int.lt_or_le M zs.length with h | h
    · exact h
    · have := Int.mul_le_mul_of_nonneg_left h (Int.le_of_lt hS)
      omega
theorem fl_nonneg {z T S : Int} (hz : 0 ≤ z) (hT : 0 ≤ T) (hS : 0 < S) : 0 ≤ z * T / S := Int.ediv_nonneg (Int.mul_nonneg hz hT) (Int.le_of_lt hS)
theorem flL_part {zs : List Int} {T S : Int} (hz : ∀ z ∈ zs, 0 ≤ z) (hT : 0 ≤ T) (hS : 0 < S) (j : Nat) : 0 ≤ ((flL zs T S).take j).sum ∧ ((flL zs T S).take j).sum ≤ (flL zs T S).sum := by
  have hn : ∀ (l : List Int), (∀ x ∈ l, 0 ≤ x) → 0 ≤ l.sum := by
    intro l
    induction l with
    | nil => simp
    | cons a r ih =>
      intro h
      rw [List.sum_cons]
      have := h a List.mem_cons_self
      have := ih (fun x hx => h x (List.mem_cons_of_mem _ hx))
      omega
  have hall : ∀ x ∈ flL zs T S, 0 ≤ x := fun x hx => by
    obtain ⟨z, hz', rfl⟩ := List.mem_map.1 hx
    exact fl_nonneg (hz z hz') hT hS
  have e : (flL zs T S).sum = ((flL zs T S).take j).sum + ((flL zs T S).drop j).sum := by rw [← List.sum_append, List.take_append_drop]
  have h1 := hn ((flL zs T S).take j) (fun x hx => hall x (List.mem_of_mem_take hx))
  have h2 := hn ((flL zs T S).drop j) (fun x hx => hall x (List.mem_of_mem_drop hx))
  omega
/-- One more at each of these places. -/
def bump (L : List Int) : List Nat → List Int
  | [] => L
  | p :: ps => bump (L.set p (L.getD p 0 + 1)) ps
theorem bump_snoc : ∀ (ps : List Nat) (L : List Int) (p : Nat), bump L (ps ++ [p]) = (bump L ps).set p ((bump L ps).getD p 0 + 1)
  | [], _, _ => rfl
  | _ :: ps, _, p => bump_snoc ps _ p
theorem bump_length : ∀ (ps : List Nat) (L : List Int), (bump L ps).length = L.length
  | [], _ => rfl
  | q :: ps, L => by rw [bump, bump_length ps, List.length_set]
theorem getD_set (L : List Int) (p i : Nat) (x : Int) (hp : p < L.length) : (L.set p x).getD i 0 = if i = p then x else L.getD i 0 := by
  rw [List.getD_eq_getElem?_getD, List.getElem?_set, List.getD_eq_getElem?_getD]
  by_cases e : p = i
  · subst e; simp [hp]
  · rw [if_neg e, if_neg (fun h => e h.symm)]
theorem bump_bound (T : Int) : ∀ (ps : List Nat) (L : List Int), (∀ p ∈ ps, p < L.length) → (∀ i, 0 ≤ L.getD i 0 ∧ L.getD i 0 ≤ T) → ∀ i, 0 ≤ (bump L ps).getD i 0 ∧ (bump L ps).getD i 0 ≤ T + ps.length := by
  intro ps
  induction ps generalizing T with
  | nil => intro L _ h i; simpa [bump] using h i
  | cons p ps ih =>
    intro L hp h i
    have := ih (T + 1) (L.set p (L.getD p 0 + 1)) (fun q hq => by rw [List.length_set]; exact hp q (List.mem_cons_of_mem _ hq)) (fun k => by
      rw [getD_set _ _ _ _ (hp p List.mem_cons_self)]
      have h1 := h p
      have h2 := h k
      split <;> omega) i
    rw [bump, List.length_cons]
    omega
theorem flL_bound {zs : List Int} {T S : Int} (hz : ∀ z ∈ zs, Wt z) (hT : 0 ≤ T) (hS : S = zs.sum) (hS0 : 0 < S) (i : Nat) : 0 ≤ (flL zs T S).getD i 0 ∧ (flL zs T S).getD i 0 ≤ T := by
  rcases Nat.lt_or_ge i zs.length with h | h
  · rw [List.getD_eq_getElem?_getD, flL_get zs T S i h, Option.getD_some]
    have hm : zs.getD i 0 ∈ zs := by rw [List.getD_eq_getElem?_getD, List.getElem?_eq_getElem h]; exact List.getElem_mem h
    have hw := hz _ hm
    refine ⟨fl_nonneg hw.1 hT hS0, ?_⟩
    have hle : zs.getD i 0 ≤ S := by
      rw [hS]
      obtain ⟨a, b, e⟩ := List.append_of_mem hm
      have h1 := (sum_bounds a (fun z hz' => hz z (by rw [e]; exact List.mem_append_left _ hz'))).1
      have h2 := (sum_bounds b (fun z hz' => hz z (by rw [e]; exact List.mem_append_right _ (List.mem_cons_of_mem _ hz')))).1
      have h3 : zs.sum = a.sum + (zs.getD i 0 + b.sum) := by conv => lhs; rw [e, List.sum_append, List.sum_cons]
      omega
    have := Int.mul_le_mul_of_nonneg_right hle hT
    exact Int.ediv_le_of_le_mul hS0 (by rw [Int.mul_comm T S]; exact this)
  · rw [List.getD_eq_getElem?_getD, List.getElem?_eq_none (by rw [flL_length]; exact h)]
    exact ⟨Int.le_refl _, hT⟩
/-- What Share answers: the error. -/
def sE (zs : List Int) (T : Int) : Int := if T < 1 ∨ 4294967296 < T then 1 else wE zs
/-- And the shares. -/
def ShIs (zs : List Int) (T : Int) (L : List Int) : Prop :=
  (sE zs T ≠ 0 ∧ L = []) ∨ (sE zs T = 0 ∧ ∃ o, IsOrd (fun i => (rsL zs T zs.sum).getD i 0) zs.length o ∧ L = bump (flL zs T zs.sum) (o.take (T - (flL zs T zs.sum).sum).toNat))
theorem ShIs.unique {zs : List Int} {T : Int} {L M : List Int} (h : ShIs zs T L) (k : ShIs zs T M) : L = M := by
  rcases h with ⟨h0, h⟩ | ⟨h0, o, h1, h2⟩
  · rcases k with ⟨_, k⟩ | ⟨k0, _⟩
    · rw [h, k]
    · exact absurd k0 h0
  · rcases k with ⟨k0, _⟩ | ⟨_, p, k1, k2⟩
    · exact absurd h0 k0
    · rw [h2, k2, h1.unique k1]
theorem sE_bad {zs : List Int} {T : Int} (h : T < 1 ∨ 4294967296 < T) : sE zs T = 1 := if_pos h
theorem sE_ok {zs : List Int} {T : Int} (h1 : 1 ≤ T) (h2 : T ≤ 4294967296) : sE zs T = wE zs := if_neg (by omega)
end Go.Proofs.Ytgemkmpepnaoiab
