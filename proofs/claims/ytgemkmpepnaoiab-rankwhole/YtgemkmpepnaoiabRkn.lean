/-
  What shares are: they sum to the whole, each is less than 1 off, none of a remainder 0 gets more, and a greater weight never gets less.
-/
import Derived.Test.YtgemkmpepnaoiabRkl
namespace Go.Proofs.Ytgemkmpepnaoiab
open Go.RowKit Go.Lib Go.Maps

theorem bump_get : ∀ (ps : List Nat) (L : List Int), ps.Nodup → (∀ p ∈ ps, p < L.length) → ∀ i, (bump L ps).getD i 0 = L.getD i 0 + if i ∈ ps then 1 else 0
  | [], L, _, _, i => by simp [bump]
  | p :: ps, L, hn, hp, i => by
    have hn' := List.nodup_cons.1 hn
    rw [bump, bump_get ps _ hn'.2 (fun q hq => by rw [List.length_set]; exact hp q (List.mem_cons_of_mem _ hq)) i, getD_set _ _ _ _ (hp p List.mem_cons_self)]
    by_cases e : i = p
    · subst e
      rw [if_pos rfl, if_neg hn'.1, if_pos List.mem_cons_self]
      omega
    · rw [if_neg e]
      by_cases e2 : i ∈ ps
      · rw [if_pos e2, if_pos (List.mem_cons_of_mem _ e2)]
      · rw [if_neg e2, if_neg (fun h => (List.mem_cons.1 h).elim e e2)]
theorem sum_set (L : List Int) (p : Nat) (x : Int) (hp : p < L.length) : (L.set p x).sum = L.sum + (x - L.getD p 0) := by
  rw [List.set_eq_take_append_cons_drop, if_pos hp, List.sum_append, List.sum_cons]
  have e : L.sum = (L.take p).sum + (L.getD p 0 + (L.drop (p + 1)).sum) := by
    conv => lhs; rw [← List.take_append_drop p L, List.sum_append, List.drop_eq_getElem_cons hp, List.sum_cons]
    rw [List.getD_eq_getElem?_getD, List.getElem?_eq_getElem hp]; rfl
  omega
theorem bump_sum : ∀ (ps : List Nat) (L : List Int), (∀ p ∈ ps, p < L.length) → (bump L ps).sum = L.sum + ps.length
  | [], L, _ => by simp [bump]
  | p :: ps, L, hp => by
    rw [bump, bump_sum ps _ (fun q hq => by rw [List.length_set]; exact hp q (List.mem_cons_of_mem _ hq)), sum_set _ _ _ (hp p List.mem_cons_self), List.length_cons]
    omega
/-- All that Share's answer is, of weights that may be. -/
structure Whole (zs : List Int) (T S : Int) (L : List Int) : Prop where
  len : L.length = zs.length
  sum : L.sum = T
  low : ∀ i, i < zs.length → zs.getD i 0 * T / S ≤ L.getD i 0
  high : ∀ i, i < zs.length → L.getD i 0 ≤ zs.getD i 0 * T / S + 1
  rest : ∀ i, i < zs.length → zs.getD i 0 * T / S < L.getD i 0 → zs.getD i 0 * T % S ≠ 0
  order : ∀ i k, i < zs.length → k < zs.length → zs.getD i 0 < zs.getD k 0 → L.getD i 0 ≤ L.getD k 0
theorem sum_le_of : ∀ (l : List Int) (c : Int), (∀ x ∈ l, x ≤ c) → l.sum ≤ l.length * c
  | [], _, _ => by simp
  | a :: r, c, h => by
    have h1 := h a List.mem_cons_self
    have h2 := sum_le_of r c (fun x hx => h x (List.mem_cons_of_mem _ hx))
    rw [List.sum_cons, List.length_cons, Int.natCast_add, Int.add_mul]
    omega
theorem sum_zero : ∀ (l : List Int), (∀ x ∈ l, x = 0) → l.sum = 0
  | [], _ => rfl
  | a :: r, h => by
    rw [List.sum_cons, h a List.mem_cons_self, sum_zero r (fun x hx => h x (List.mem_cons_of_mem _ hx))]
    rfl
theorem whole_of {zs : List Int} {T : Int} {L : List Int} (h : ShIs zs T L) (he : sE zs T = 0) : Whole zs T zs.sum L := by
  rcases h with ⟨h, _⟩ | ⟨_, o, hO, rfl⟩
  · exact absurd he h
  have hT : 1 ≤ T ∧ T ≤ 4294967296 := by
    by_cases e : T < 1 ∨ 4294967296 < T
    · rw [sE_bad e] at he; omega
    · omega
  rw [sE_ok hT.1 hT.2] at he
  obtain ⟨hn, hz, _, hS⟩ := wE_zero he
  obtain ⟨S, hSe⟩ : ∃ S, S = zs.sum := ⟨_, rfl⟩
  have hmb := missing_bounds (zs := zs) (T := T) hS
  have hfr := fl_rs_sum T zs.sum zs
  rw [← hSe] at hO hmb hfr hS ⊢
  obtain ⟨M, hM⟩ : ∃ M : Nat, T - (flL zs T S).sum = (M : Int) := ⟨(T - (flL zs T S).sum).toNat, by omega⟩
  have hMt : (T - (flL zs T S).sum).toNat = M := by rw [hM]; rfl
  rw [hMt]
  have hol := hO.length
  have hlt : ∀ p ∈ o.take M, p < (flL zs T S).length := fun p hp => by rw [flL_length]; exact hO.lt (List.mem_of_mem_take hp)
  have hnd : (o.take M).Nodup := hO.nodup.sublist (List.take_sublist _ _)
  have hget : ∀ i, i < zs.length → (bump (flL zs T S) (o.take M)).getD i 0 = zs.getD i 0 * T / S + if i ∈ o.take M then 1 else 0 := fun i hi => by
    rw [bump_get _ _ hnd hlt]
    congr 1
    rw [List.getD_eq_getElem?_getD, flL_get _ _ _ _ hi]; rfl
  have hrg : ∀ i, i < zs.length → (rsL zs T S).getD i 0 = zs.getD i 0 * T % S := fun i hi => by rw [List.getD_eq_getElem?_getD, rsL_get _ _ _ _ hi]; rfl
  have hrest : ∀ i, i ∈ o.take M → zs.getD i 0 * T % S ≠ 0 := fun i hi h0 => by
    obtain ⟨t, ht, hte⟩ := List.getElem_of_mem hi
    rw [List.length_take] at ht
    rw [List.getElem_take] at hte
    have hin : i < zs.length := hO.lt (List.mem_of_mem_take hi)
    -- behind t all remainders are 0
    have hback : ∀ x ∈ (o.drop t).map (fun i => (rsL zs T S).getD i 0), x = 0 := fun x hx => by
      obtain ⟨y, hy, rfl⟩ := List.mem_map.1 hx
      obtain ⟨s, hs, rfl⟩ := List.getElem_of_mem hy
      rw [List.length_drop] at hs
      rw [List.getElem_drop]
      have hyl : o[t + s] < zs.length := hO.lt (List.getElem_mem (by omega))
      have hnn : 0 ≤ (rsL zs T S).getD o[t + s] 0 := by rw [hrg _ hyl]; exact Int.emod_nonneg _ (by omega)
      have h0' : (rsL zs T S).getD i 0 = 0 := by rw [hrg i hin, h0]
      rcases Nat.eq_zero_or_pos s with e | e
      · subst e
        have e3 : o[t + 0]'(by omega) = i := hte
        rw [e3]; exact h0'
      · have hb := List.pairwise_iff_getElem.1 hO.2 t (t + s) (by omega) (by omega) (by omega)
        rw [hte] at hb
        simp only [Bf] at hb
        omega
    have hfront : ∀ x ∈ (o.take t).map (fun i => (rsL zs T S).getD i 0), x ≤ S - 1 := fun x hx => by
      obtain ⟨y, hy, rfl⟩ := List.mem_map.1 hx
      have hyl : y < zs.length := hO.lt (List.mem_of_mem_take hy)
      have := Int.emod_lt_of_pos (zs.getD y 0 * T) hS
      show (rsL zs T S).getD y 0 ≤ S - 1
      rw [hrg y hyl]
      omega
    have hsum : (rsL zs T S).sum = ((o.take t).map (fun i => (rsL zs T S).getD i 0)).sum + ((o.drop t).map (fun i => (rsL zs T S).getD i 0)).sum := by
      rw [← List.sum_append, ← List.map_append, List.take_append_drop, perm_sum (hO.1.map _)]
      have := map_range_getD (rsL zs T S)
      rw [rsL_length] at this
      rw [this]
    have hs1 := sum_le_of _ _ hfront
    rw [List.length_map, List.length_take, Nat.min_eq_left (by omega)] at hs1
    have hs2 := sum_zero _ hback
    have hk1 : S * (M : Int) = (rsL zs T S).sum := by
      rw [← hM, Int.mul_sub]
      omega
    have hk2 : (t : Int) * (S - 1) ≤ (M : Int) * S - S := by
      have e1 : (t : Int) * (S - 1) ≤ ((M : Int) - 1) * (S - 1) := Int.mul_le_mul_of_nonneg_right (by omega) (by omega)
      have e2 : ((M : Int) - 1) * (S - 1) = (M : Int) * S - (M : Int) - (S - 1) := by rw [Int.sub_mul, Int.mul_sub, Int.one_mul, Int.mul_one]
      omega
    rw [Int.mul_comm] at hk1
    omega
  refine ⟨by rw [bump_length, flL_length], ?_, ?_, ?_, ?_, ?_⟩
  · rw [bump_sum _ _ hlt, List.length_take, Nat.min_eq_left (by omega)]
    omega
  · intro i hi
    rw [hget i hi]
    split <;> omega
  · intro i hi
    rw [hget i hi]
    split <;> omega
  · intro i hi hlt'
    rw [hget i hi] at hlt'
    by_cases e : i ∈ o.take M
    · exact hrest i e
    · rw [if_neg e] at hlt'; omega
  · intro i k hi hk hik
    rw [hget i hi, hget k hk]
    have hTp : zs.getD i 0 * T < zs.getD k 0 * T := Int.mul_lt_mul_of_pos_right hik (by omega)
    have hfl : zs.getD i 0 * T / S ≤ zs.getD k 0 * T / S := Int.ediv_le_ediv hS (Int.le_of_lt hTp)
    by_cases e1 : i ∈ o.take M
    · by_cases e2 : k ∈ o.take M
      · rw [if_pos e1, if_pos e2]; omega
      · rw [if_pos e1, if_neg e2]
        rcases Int.lt_or_le (zs.getD i 0 * T / S) (zs.getD k 0 * T / S) with e3 | e3
        · omega
        · exfalso
          have e4 : zs.getD i 0 * T / S = zs.getD k 0 * T / S := by omega
          have m1 := Int.mul_ediv_add_emod (zs.getD i 0 * T) S
          have m2 := Int.mul_ediv_add_emod (zs.getD k 0 * T) S
          rw [e4] at m1
          have hr : (rsL zs T S).getD i 0 < (rsL zs T S).getD k 0 := by rw [hrg i hi, hrg k hk]; omega
          obtain ⟨t, ht, hte⟩ := List.getElem_of_mem e1
          rw [List.length_take] at ht
          rw [List.getElem_take] at hte
          obtain ⟨s, hs, hse⟩ := List.getElem_of_mem (hO.mem hk)
          rcases Nat.lt_or_ge s M with q | q
          · apply e2
            rw [← hse]
            have : s < (o.take M).length := by rw [List.length_take]; omega
            have h2 := List.getElem_mem this
            rw [List.getElem_take] at h2
            exact h2
          · have hb := List.pairwise_iff_getElem.1 hO.2 t s (by omega) hs (by omega)
            rw [hte, hse] at hb
            simp only [Bf] at hb
            omega
    · rw [if_neg e1]
      split <;> omega
end Go.Proofs.Ytgemkmpepnaoiab
