/-
  Numbers of layer 8: products of rows, the rows of a matrix, their sizes.
-/
import Derived.WalkKit
namespace Go.Proofs.Ytdponkpgokncdaa

/-- A number of 8 bits. -/
def C8 (z : Int) : Prop := -128 ≤ z ∧ z ≤ 127
/-- The sum of the products. -/
def dotN : List Int → List Int → Int
  | a :: r, b :: s => a * b + dotN r s
  | _, _ => 0
theorem dotN_append : ∀ (a b c d : List Int), a.length = b.length → dotN (a ++ c) (b ++ d) = dotN a b + dotN c d
  | [], [], c, d, _ => by simp [dotN]
  | x :: r, y :: s, c, d, h => by
    have := dotN_append r s c d (by simpa using h)
    simp only [List.cons_append, dotN, this]
    omega
theorem dotN_comm : ∀ (a b : List Int), dotN a b = dotN b a
  | [], [] => rfl
  | [], _ :: _ => rfl
  | _ :: _, [] => rfl
  | x :: r, y :: s => by simp only [dotN, dotN_comm r s, Int.mul_comm x y]
theorem getD_getElem {a : List Int} {j : Nat} (h : j < a.length) : a.getD j 0 = a[j] := by rw [List.getD_eq_getElem?_getD, List.getElem?_eq_getElem h]; rfl
theorem take_snocD {a : List Int} {j : Nat} (h : j < a.length) : a.take (j + 1) = a.take j ++ [a.getD j 0] := by rw [List.take_succ_eq_append_getElem h, getD_getElem h]
theorem dotN_take {a b : List Int} {j : Nat} (ha : j < a.length) (hb : j < b.length) : dotN (a.take (j + 1)) (b.take (j + 1)) = dotN (a.take j) (b.take j) + a.getD j 0 * b.getD j 0 := by
  rw [take_snocD ha, take_snocD hb, dotN_append _ _ _ _ (by simp; omega)]
  simp [dotN]
theorem mul8 {x y : Int} (hx : C8 x) (hy : C8 y) : -16384 ≤ x * y ∧ x * y ≤ 16384 := by
  obtain ⟨a, b⟩ := hx
  obtain ⟨c, d⟩ := hy
  rcases Int.le_total 0 y with h | h
  · have h1 := Int.mul_le_mul_of_nonneg_right b h
    have h2 := Int.mul_le_mul_of_nonneg_right a h
    omega
  · have h1 := Int.mul_le_mul_of_nonpos_right b h
    have h2 := Int.mul_le_mul_of_nonpos_right a h
    omega
theorem dotN_bound : ∀ (a b : List Int), (∀ z ∈ a, C8 z) → (∀ z ∈ b, C8 z) → -16384 * (a.length : Int) ≤ dotN a b ∧ dotN a b ≤ 16384 * (a.length : Int)
  | [], b, _, _ => by cases b <;> simp [dotN]
  | x :: r, [], _, _ => by simp only [dotN, List.length_cons]; omega
  | x :: r, y :: s, ha, hb => by
    have h := dotN_bound r s (fun z hz => ha z (List.mem_cons_of_mem _ hz)) (fun z hz => hb z (List.mem_cons_of_mem _ hz))
    have hm := mul8 (ha x List.mem_cons_self) (hb y List.mem_cons_self)
    simp only [dotN, List.length_cons]
    omega
/-- The sum of the sizes. -/
def sizeN : List Int → Int
  | [] => 0
  | z :: r => (z.natAbs : Int) + sizeN r
theorem sizeN_append : ∀ (a b : List Int), sizeN (a ++ b) = sizeN a + sizeN b
  | [], b => by simp [sizeN]
  | x :: r, b => by
    have := sizeN_append r b
    simp only [List.cons_append, sizeN, this]
    omega
theorem sizeN_bound : ∀ (a : List Int), (∀ z ∈ a, C8 z) → 0 ≤ sizeN a ∧ sizeN a ≤ 128 * (a.length : Int)
  | [], _ => by simp [sizeN]
  | x :: r, ha => by
    have h := sizeN_bound r (fun z hz => ha z (List.mem_cons_of_mem _ hz))
    have hm := ha x List.mem_cons_self
    unfold C8 at hm
    simp only [sizeN, List.length_cons]
    omega
theorem dotN_size : ∀ (a b : List Int), (∀ z ∈ b, C8 z) → -(128 * sizeN a) ≤ dotN a b ∧ dotN a b ≤ 128 * sizeN a
  | [], b, _ => by cases b <;> simp [dotN, sizeN]
  | x :: r, [], _ => by
    have : 0 ≤ sizeN r := by
      clear x
      induction r with
      | nil => simp [sizeN]
      | cons y s ih => simp only [sizeN]; omega
    simp only [dotN, sizeN]; omega
  | x :: r, y :: s, hb => by
    have h := dotN_size r s (fun z hz => hb z (List.mem_cons_of_mem _ hz))
    obtain ⟨h1, h2⟩ := hb y List.mem_cons_self
    have hm : -(128 * (x.natAbs : Int)) ≤ x * y ∧ x * y ≤ 128 * (x.natAbs : Int) := by
      rcases Int.le_total 0 x with e | e
      · have e' : (x.natAbs : Int) = x := by omega
        have q1 := Int.mul_le_mul_of_nonneg_left h1 e
        have q2 := Int.mul_le_mul_of_nonneg_left h2 e
        omega
      · have e' : (x.natAbs : Int) = -x := by omega
        have q1 := Int.mul_le_mul_of_nonpos_left e h1
        have q2 := Int.mul_le_mul_of_nonpos_left e h2
        omega
    simp only [dotN, sizeN]
    omega

/-- A row of a matrix. -/
def part (w : List Int) (c r : Nat) : List Int := (w.drop (r * c)).take c
theorem part_length {w : List Int} {c r R : Nat} (h : w.length = R * c) (hr : r < R) : (part w c r).length = c := by
  have : (r + 1) * c ≤ R * c := Nat.mul_le_mul_right c hr
  rw [Nat.add_mul, Nat.one_mul] at this
  simp [part]
  omega
theorem part_mem {w : List Int} {c r : Nat} {z : Int} (h : z ∈ part w c r) : z ∈ w := List.mem_of_mem_drop (List.mem_of_mem_take h)
theorem part_get {w : List Int} {c r i : Nat} (h : i < c) : (part w c r).getD i 0 = w.getD (r * c + i) 0 := by
  simp only [part, List.getD_eq_getElem?_getD]
  rw [List.getElem?_take_of_lt h, List.getElem?_drop]
/-- Each row times a row. -/
def timesN (w : List Int) (c : Nat) (x : List Int) : List Int := (List.range (w.length / c)).map (fun r => dotN (part w c r) x)
/-- The size of each row. -/
def sizesN (w : List Int) (c : Nat) : List Int := (List.range (w.length / c)).map (fun r => sizeN (part w c r))
theorem timesN_length (w : List Int) (c : Nat) (x : List Int) : (timesN w c x).length = w.length / c := by simp [timesN]
theorem sizesN_length (w : List Int) (c : Nat) : (sizesN w c).length = w.length / c := by simp [sizesN]
theorem rows_of {w : List Int} {c R : Nat} (h : w.length = R * c) (hc : 1 ≤ c) : w.length / c = R := by rw [h]; exact Nat.mul_div_cancel _ (by omega)
theorem timesN_rows {w : List Int} {c R : Nat} (h : w.length = R * c) (hc : 1 ≤ c) (x : List Int) : timesN w c x = (List.range R).map (fun r => dotN (part w c r) x) := by unfold timesN; rw [rows_of h hc]
theorem sizesN_rows {w : List Int} {c R : Nat} (h : w.length = R * c) (hc : 1 ≤ c) : sizesN w c = (List.range R).map (fun r => sizeN (part w c r)) := by unfold sizesN; rw [rows_of h hc]
/-- What is wrong with a matrix. -/
def mE (w : List Int) (c : Int) : Int := if 1048576 < w.length then 81 else if c < 1 ∨ (w.length : Int) % c ≠ 0 then 80 else 0
/-- How many rows a matrix has; 0, if it is none. -/
def mR (w : List Int) (c : Int) : Nat := if mE w c = 0 then w.length / c.toNat else 0
theorem mE_many {w : List Int} (c : Int) (h : 1048576 < w.length) : mE w c = 81 := by unfold mE; rw [if_pos h]
theorem mE_low {w : List Int} {c : Int} (h : w.length ≤ 1048576) (hc : c < 1) : mE w c = 80 := by unfold mE; rw [if_neg (by omega), if_pos (.inl hc)]
theorem mE_rest {w : List Int} {c : Int} (h : w.length ≤ 1048576) (hc : (w.length : Int) % c ≠ 0) : mE w c = 80 := by unfold mE; rw [if_neg (by omega), if_pos (.inr hc)]
theorem mE_ok {w : List Int} {c R : Nat} (h : w.length ≤ 1048576) (hc : 1 ≤ c) (hr : w.length = R * c) : mE w c = 0 ∧ mR w c = R := by
  have h0 : mE w c = 0 := by
    unfold mE
    rw [if_neg (by omega), if_neg]
    rintro (e | e)
    · omega
    · apply e
      rw [hr, Int.natCast_mul]
      exact Int.mul_emod_left _ _
  refine ⟨h0, ?_⟩
  unfold mR
  rw [if_pos h0, Int.toNat_natCast]
  exact rows_of hr hc
theorem mR_bad {w : List Int} {c : Int} (h : mE w c ≠ 0) : mR w c = 0 := by unfold mR; rw [if_neg h]
/-- A matrix is one, or there is something wrong: told by cases. -/
theorem m_cases (w : List Int) (c : Int) : (1048576 < w.length) ∨ (w.length ≤ 1048576 ∧ c < 1) ∨ (w.length ≤ 1048576 ∧ ∃ k : Nat, c = k ∧ 1 ≤ k ∧ (w.length : Int) % c ≠ 0 ∧ (w.length : Int).tmod c ≠ 0) ∨ (w.length ≤ 1048576 ∧ ∃ k R : Nat, c = k ∧ 1 ≤ k ∧ w.length = R * k) := by
  rcases Nat.lt_or_ge 1048576 w.length with h | h
  · exact .inl h
  · rcases Int.lt_or_le c 1 with h1 | h1
    · exact .inr (.inl ⟨h, h1⟩)
    · obtain ⟨k, rfl⟩ := Int.eq_ofNat_of_zero_le (show 0 ≤ c by omega)
      by_cases h2 : (w.length : Int) % (k : Int) = 0
      · refine .inr (.inr (.inr ⟨h, k, w.length / k, rfl, by omega, ?_⟩))
        have : w.length % k = 0 := by omega
        have := Nat.div_add_mod w.length k
        rw [Nat.mul_comm]
        omega
      · exact .inr (.inr (.inl ⟨h, k, rfl, by omega, h2, by rw [Int.tmod_eq_emod_of_nonneg (by omega)]; exact h2⟩))
/-- What is wrong with two rows. -/
def dE (a b : List Int) : Int := if 1048576 < a.length ∨ 1048576 < b.length then 81 else if a.length ≠ b.length then 80 else 0
def dV (a b : List Int) : Int := if dE a b = 0 then dotN a b else 0
theorem dE_many {a b : List Int} (h : 1048576 < a.length ∨ 1048576 < b.length) : dE a b = 81 := by unfold dE; rw [if_pos h]
theorem dE_else {a b : List Int} (h : a.length ≤ 1048576) (h' : b.length ≤ 1048576) (hn : a.length ≠ b.length) : dE a b = 80 := by unfold dE; rw [if_neg (by omega), if_pos hn]
theorem dE_ok {a b : List Int} (h : a.length ≤ 1048576) (hn : a.length = b.length) : dE a b = 0 := by unfold dE; rw [if_neg (by omega), if_neg (by omega)]
theorem dV_bad {a b : List Int} (h : dE a b ≠ 0) : dV a b = 0 := by unfold dV; rw [if_neg h]
theorem dV_ok {a b : List Int} (h : dE a b = 0) : dV a b = dotN a b := by unfold dV; rw [if_pos h]
theorem dE_comm (a b : List Int) : dE b a = dE a b := by unfold dE; simp only [Or.comm (a := 1048576 < b.length), ne_comm (a := b.length)]
theorem dV_comm (a b : List Int) : dV b a = dV a b := by unfold dV; rw [dE_comm, dotN_comm]
theorem dE_zero {a b : List Int} (h : dE a b = 0) : a.length ≤ 1048576 ∧ a.length = b.length := by
  unfold dE at h
  split at h
  · cases h
  · split at h
    · cases h
    · omega
end Go.Proofs.Ytdponkpgokncdaa
