/-
  Numbers of RopeRows: the angles of a place; rows turned by their places.
-/
import Derived.Test.YtkemaofclahaiabDoorRpN
namespace Go.Proofs.YtkemaofclahaiabDoor
open Go.RowKit

/-- What is wrong with a table and a place. -/
def atE (n m : Nat) (half place : Int) : Int := if half < 1 ∨ 32 < half then 102 else if n ≠ m ∨ (n : Int) % half ≠ 0 then 101 else if place < 0 ∨ (n : Int) / half ≤ place then 1 else 0
/-- The angles of a place. -/
def atL (c : List Int) (E half place : Int) : List Int := if E = 0 then (c.drop (place * half).toNat).take half.toNat else []
theorem at_cases (n m : Nat) (half place : Int) : (atE n m half place = 102 ∧ (half < 1 ∨ 32 < half)) ∨ (∃ h : Nat, half = h ∧ 1 ≤ h ∧ h ≤ 32 ∧ ((atE n m half place = 101 ∧ n ≠ m) ∨ (n = m ∧ ((atE n m half place = 101 ∧ (n : Int) % (h : Int) ≠ 0) ∨ (∃ k : Nat, n = k * h ∧ (n : Int) % (h : Int) = 0 ∧ (n : Int) / (h : Int) = k ∧ ((atE n m half place = 1 ∧ place < 0) ∨ (∃ p : Nat, place = p ∧ ((atE n m half place = 1 ∧ k ≤ p) ∨ (atE n m half place = 0 ∧ p < k))))))))) := by
  by_cases h1 : half < 1 ∨ 32 < half
  · exact .inl ⟨if_pos h1, h1⟩
  refine .inr ⟨half.toNat, by omega, by omega, by omega, ?_⟩
  obtain ⟨h, rfl⟩ := Int.eq_ofNat_of_zero_le (show 0 ≤ half by omega)
  rw [Int.toNat_natCast]
  by_cases h2 : n = m
  · refine .inr ⟨h2, ?_⟩
    by_cases h3 : (n : Int) % (h : Int) = 0
    · refine .inr ⟨n / h, ?_, h3, rfl, ?_⟩
      · have h4 : n % h = 0 := by omega
        have := Nat.div_add_mod n h
        rw [Nat.mul_comm]
        omega
      · have e0 : ¬ (n ≠ m ∨ (n : Int) % (h : Int) ≠ 0) := fun e => e.elim (fun e => e h2) (fun e => e h3)
        by_cases h5 : place < 0
        · exact .inl ⟨by unfold atE; rw [if_neg h1, if_neg e0, if_pos (.inl h5)], h5⟩
        · obtain ⟨p, rfl⟩ := Int.eq_ofNat_of_zero_le (show 0 ≤ place by omega)
          refine .inr ⟨p, rfl, ?_⟩
          have e1 : (n : Int) / (h : Int) = ((n / h : Nat) : Int) := rfl
          by_cases h6 : n / h ≤ p
          · exact .inl ⟨by unfold atE; rw [if_neg h1, if_neg e0, if_pos (.inr (by rw [e1]; omega))], h6⟩
          · exact .inr ⟨by unfold atE; rw [if_neg h1, if_neg e0, if_neg (by rw [e1]; omega)], by omega⟩
    · exact .inl ⟨by unfold atE; rw [if_neg h1, if_pos (.inr h3)], h3⟩
  · exact .inl ⟨by unfold atE; rw [if_neg h1, if_pos (.inl h2)], h2⟩
theorem atL_bad {c : List Int} {E half place : Int} (h : E ≠ 0) : atL c E half place = [] := if_neg h
theorem atL_ok (c : List Int) (h p : Nat) : atL c 0 h p = (c.drop (p * h)).take h := by
  unfold atL; rw [if_pos rfl, ← Int.natCast_mul, Int.toNat_natCast, Int.toNat_natCast]
theorem atL_len (c : List Int) (E half place : Int) : (atL c E half place).length ≤ c.length := by
  unfold atL; split
  · simp; omega
  · simp
theorem atL_mem {c : List Int} {E half place : Int} {z : Int} (h : z ∈ atL c E half place) : z ∈ c := by
  unfold atL at h; split at h
  · exact List.mem_of_mem_drop (List.mem_of_mem_take h)
  · cases h
theorem fits_at {k h p : Nat} (hp : p < k) : p * h + h ≤ k * h := by
  have := Nat.mul_le_mul_right h (show p + 1 ≤ k by omega)
  rw [Nat.add_mul, Nat.one_mul] at this
  exact this
/-- What is wrong with a row at a place. -/
def rwE (x : List Int) (size : Int) (c s : List Int) (place : Int) : Int :=
  if size < 2 ∨ size % 2 ≠ 0 then 100 else if atE c.length s.length (size / 2) place ≠ 0 then atE c.length s.length (size / 2) place
  else toE x.length size (atL c 0 (size / 2) place).length (atL s 0 (size / 2) place).length
/-- A row turned by the angles of its place. -/
def rwL (x : List Int) (size : Int) (c s : List Int) (place : Int) : List Int := if rwE x size c s place = 0 then toL 1 x size (atL c 0 (size / 2) place) (atL s 0 (size / 2) place) else []
theorem rwL_len (x : List Int) (size : Int) (c s : List Int) (place : Int) : (rwL x size c s place).length ≤ x.length := by
  unfold rwL; split
  · exact toL_len _ _ _ _ _
  · simp
theorem rwL_c8 (x : List Int) (size : Int) (c s : List Int) (place : Int) : ∀ z ∈ rwL x size c s place, C8 z := by
  unfold rwL; split
  · exact toL_c8 _ _ _ _ _
  · intro z hz; cases hz
theorem rwL_bad {x : List Int} {size : Int} {c s : List Int} {place : Int} (h : rwE x size c s place ≠ 0) : rwL x size c s place = [] := if_neg h
theorem rwE_head {x : List Int} {size : Int} {c s : List Int} {place : Int} (h : size < 2 ∨ size % 2 ≠ 0) : rwE x size c s place = 100 := if_pos h
theorem rwE_at {x : List Int} {size : Int} {c s : List Int} {place : Int} (h : ¬ (size < 2 ∨ size % 2 ≠ 0)) (h2 : atE c.length s.length (size / 2) place ≠ 0) : rwE x size c s place = atE c.length s.length (size / 2) place := by
  unfold rwE; rw [if_neg h, if_pos h2]
theorem rwE_to {x : List Int} {size : Int} {c s : List Int} {place : Int} (h : ¬ (size < 2 ∨ size % 2 ≠ 0)) (h2 : atE c.length s.length (size / 2) place = 0) : rwE x size c s place = toE x.length size (atL c 0 (size / 2) place).length (atL s 0 (size / 2) place).length := by
  unfold rwE; rw [if_neg h, if_neg (by rw [h2]; decide)]
theorem rwL_to {x : List Int} {size : Int} {c s : List Int} {place : Int} (h : ¬ (size < 2 ∨ size % 2 ≠ 0)) (h2 : atE c.length s.length (size / 2) place = 0) : rwL x size c s place = toL 1 x size (atL c 0 (size / 2) place) (atL s 0 (size / 2) place) := by
  unfold rwL; split
  · rfl
  · rename_i h3
    rw [rwE_to h h2] at h3
    exact (toL_bad h3).symm
/-- A row that is right: its place lies in the table. -/
theorem rwE_place {x : List Int} {size : Int} {c s : List Int} {place : Int} (h : rwE x size c s place = 0) : 0 ≤ place ∧ place < c.length := by
  by_cases h1 : size < 2 ∨ size % 2 ≠ 0
  · rw [rwE_head h1] at h; cases h
  by_cases h2 : atE c.length s.length (size / 2) place = 0
  · rcases at_cases c.length s.length (size / 2) place with ⟨e, _⟩ | ⟨q, e1, q1, _, ⟨e, _⟩ | ⟨_, ⟨e, _⟩ | ⟨k, e2, _, _, ⟨e, _⟩ | ⟨p, rfl, ⟨e, _⟩ | ⟨_, e3⟩⟩⟩⟩⟩ <;> try omega
    have := Nat.le_mul_of_pos_right k (show 0 < q by omega)
    omega
  · rw [rwE_at h1 h2] at h; exact absurd h h2
/-- What Rows answers: of the first row that may not be its place and the error, else all rows. -/
def RrIs (n : Nat) (eF : Nat → Int) (lF : Nat → List Int) (I E : Int) (R : List (List Int)) : Prop :=
  (∃ i : Nat, i < n ∧ eF i ≠ 0 ∧ (∀ h, h < i → eF h = 0) ∧ I = i ∧ E = eF i ∧ R = []) ∨ ((∀ i, i < n → eF i = 0) ∧ I = 0 ∧ E = 0 ∧ R = (List.range n).map lF)
theorem RrIs.unique {n : Nat} {eF : Nat → Int} {lF : Nat → List Int} {I E I' E' : Int} {R R' : List (List Int)} (h : RrIs n eF lF I E R) (k : RrIs n eF lF I' E' R') : I = I' ∧ E = E' ∧ R = R' := by
  rcases h with ⟨i, h1, h2, h3, rfl, rfl, rfl⟩ | ⟨h1, rfl, rfl, rfl⟩ <;> rcases k with ⟨j, k1, k2, k3, rfl, rfl, rfl⟩ | ⟨k1, rfl, rfl, rfl⟩
  · obtain rfl : i = j := by
      rcases Nat.lt_trichotomy i j with c | c | c
      · exact absurd (k3 i c) h2
      · exact c
      · exact absurd (h3 j c) k2
    exact ⟨rfl, rfl, rfl⟩
  · exact absurd (k1 i h1) h2
  · exact absurd (h1 j k1) k2
  · exact ⟨rfl, rfl, rfl⟩
theorem RrIs.len {n : Nat} {eF : Nat → Int} {lF : Nat → List Int} {I E : Int} {R : List (List Int)} (h : RrIs n eF lF I E R) : R.length ≤ n := by
  rcases h with ⟨i, h1, h2, h3, rfl, rfl, rfl⟩ | ⟨h1, rfl, rfl, rfl⟩ <;> simp
theorem range_succL (n : Nat) (lF : Nat → List Int) : (List.range (n + 1)).map lF = (List.range n).map lF ++ [lF n] := by simp [List.range_succ]
end Go.Proofs.YtkemaofclahaiabDoor
