/-
  Numbers of weigh: the weights of the chosen.
-/
import Derived.Test.YtbppahmcjifflaaDoorSfm
import Derived.Test.YtbppahmcjifflaaDoorFwn
import Derived.Test.YtbppahmcjifflaaDoorMkL
import Derived.Test.YtbppahmcjifflaaDoorVcu
namespace Go.Proofs.YtbppahmcjifflaaDoor
open Go.RowKit

theorem near_bound {x d B : Int} (hd : 1 ≤ d) (hB : 2 ≤ B) (h0 : -B ≤ x) (h1 : x ≤ B) : -B ≤ near x d ∧ near x d ≤ B := by
  have hr0 := Int.emod_nonneg x (show d ≠ 0 by omega)
  have hr1 := Int.emod_lt_of_pos x (show 0 < d by omega)
  have he := Int.mul_ediv_add_emod x d
  unfold near
  generalize x % d = r at *
  rcases Int.lt_or_le d 2 with h | h
  · obtain rfl : d = 1 := by omega
    rw [if_neg (by omega), Int.ediv_one]
    exact ⟨h0, h1⟩
  · have hq : -B ≤ x / d ∧ x / d + 1 ≤ B := by
      constructor
      · rw [Int.le_ediv_iff_mul_le (by omega)]
        have := Int.mul_le_mul_of_nonneg_left (show (1 : Int) ≤ d by omega) (show 0 ≤ B by omega)
        rw [Int.neg_mul]
        omega
      · have : x / d < B := by
          rw [Int.ediv_lt_iff_lt_mul (by omega)]
          have := Int.mul_le_mul_of_nonneg_left h (show 0 ≤ B by omega)
          omega
        omega
    split <;> omega
theorem rdQ_bound {x s B : Int} (hB : 2 ≤ B) (h0 : -B ≤ x) (h1 : x ≤ B) : -B ≤ rdQ x s ∧ rdQ x s ≤ B := by
  unfold rdQ
  split
  · omega
  · exact near_bound (pow62 s.toNat (by omega)).1 hB h0 h1
/-- What Exp2 makes of a chosen one's score. -/
def exF (zs : List Int) (o : List Nat) (i : Nat) : Int := exp2 (256 * (zs.getD (o.getD i 0) 0 - zs.getD (o.getD 0 0) 0))
def exS (zs : List Int) (o : List Nat) : Nat → Int
  | 0 => 0
  | j + 1 => exS zs o j + exF zs o j
theorem exF_bound (zs : List Int) (o : List Nat) (i : Nat) : 0 ≤ exF zs o i ∧ exF zs o i ≤ 1073741824 := ⟨exp2_nonneg _, exp2_le _⟩
theorem exF_zero (zs : List Int) (o : List Nat) : exF zs o 0 = 1073741824 := by unfold exF; rw [Int.sub_self]; decide
theorem exS_bound (zs : List Int) (o : List Nat) : ∀ j : Nat, 0 ≤ exS zs o j ∧ exS zs o j ≤ 1073741824 * (j : Int) ∧ (1 ≤ j → 1073741824 ≤ exS zs o j)
  | 0 => ⟨Int.le_refl _, Int.le_refl _, fun h => absurd h (by omega)⟩
  | j + 1 => by
    obtain ⟨h1, h2, h3⟩ := exS_bound zs o j
    obtain ⟨h4, h5⟩ := exF_bound zs o j
    refine ⟨by show 0 ≤ exS zs o j + exF zs o j; omega, by show exS zs o j + exF zs o j ≤ _; omega, fun _ => ?_⟩
    show _ ≤ exS zs o j + exF zs o j
    rcases Nat.eq_zero_or_pos j with rfl | hj
    · rw [exF_zero]; omega
    · have := h3 hj; omega
/-- A weight, ahead of what the first one gets besides; what is missing behind j of them. -/
def wgF (zs : List Int) (o : List Nat) (i : Nat) : Int := exF zs o i * 65536 / exS zs o o.length
def msF (zs : List Int) (o : List Nat) : Nat → Int
  | 0 => 65536
  | j + 1 => msF zs o j - wgF zs o j
def wtF (zs : List Int) (o : List Nat) (i : Nat) : Int := if i = 0 then wgF zs o 0 + msF zs o o.length else wgF zs o i
def wtL (zs : List Int) (o : List Nat) : List Int := mkL o.length (wtF zs o)
theorem exS_mono (zs : List Int) (o : List Nat) {i j : Nat} (h : i ≤ j) : exS zs o i ≤ exS zs o j := by
  induction j with
  | zero => obtain rfl : i = 0 := by omega
            exact Int.le_refl _
  | succ j ih =>
    rcases Nat.eq_or_lt_of_le h with rfl | h'
    · exact Int.le_refl _
    · have := ih (by omega)
      have := (exF_bound zs o j).1
      show _ ≤ exS zs o j + exF zs o j
      omega
theorem exF_le_sum (zs : List Int) (o : List Nat) {i j : Nat} (h : i < j) : exF zs o i ≤ exS zs o j := by
  have h1 := exS_mono zs o (show i + 1 ≤ j by omega)
  have h2 := (exS_bound zs o i).1
  have : exS zs o (i + 1) = exS zs o i + exF zs o i := rfl
  omega
theorem wgF_bound (zs : List Int) (o : List Nat) {i : Nat} (h : i < o.length) : 0 ≤ wgF zs o i ∧ wgF zs o i ≤ 65536 := by
  have h1 := exF_bound zs o i
  have h2 := exF_le_sum zs o h
  have h3 := (exS_bound zs o o.length).2.2 (by omega)
  unfold wgF
  generalize exS zs o o.length = S at *
  generalize exF zs o i = e at *
  refine ⟨Int.ediv_nonneg (by omega) (by omega), ?_⟩
  have : e * 65536 / S < 65537 := by
    rw [Int.ediv_lt_iff_lt_mul (by omega)]
    omega
  omega
/-- The weights given so far are at most what they would be exactly. -/
theorem msF_bound (zs : List Int) (o : List Nat) (ho : 1 ≤ o.length) : ∀ j, j ≤ o.length → (65536 - msF zs o j) * exS zs o o.length ≤ 65536 * exS zs o j ∧ msF zs o j ≤ 65536
  | 0, _ => by
    show (65536 - 65536) * _ ≤ 65536 * 0 ∧ (65536 : Int) ≤ 65536
    omega
  | j + 1, hj => by
    obtain ⟨h1, h2⟩ := msF_bound zs o ho j (by omega)
    have hS := (exS_bound zs o o.length).2.2 ho
    have hw := (wgF_bound zs o (show j < o.length by omega)).1
    have hm : wgF zs o j * exS zs o o.length ≤ exF zs o j * 65536 := Int.ediv_mul_le _ (by omega)
    have e1 : msF zs o (j + 1) = msF zs o j - wgF zs o j := rfl
    have e2 : exS zs o (j + 1) = exS zs o j + exF zs o j := rfl
    rw [e1, e2]
    refine ⟨?_, by omega⟩
    have e3 : (65536 - (msF zs o j - wgF zs o j)) * exS zs o o.length = (65536 - msF zs o j) * exS zs o o.length + wgF zs o j * exS zs o o.length := by
      rw [← Int.add_mul]
      congr 1
      omega
    rw [e3, Int.mul_add]
    omega
theorem msF_nonneg (zs : List Int) (o : List Nat) (ho : 1 ≤ o.length) : 0 ≤ msF zs o o.length ∧ msF zs o o.length ≤ 65536 := by
  obtain ⟨h1, h2⟩ := msF_bound zs o ho o.length (Nat.le_refl _)
  have hS := (exS_bound zs o o.length).2.2 ho
  refine ⟨?_, h2⟩
  rcases Int.lt_or_le (msF zs o o.length) 0 with h | h
  · exfalso
    have := Int.mul_lt_mul_of_pos_right (show (65536 : Int) < 65536 - msF zs o o.length by omega) (show 0 < exS zs o o.length by omega)
    omega
  · exact h
theorem msF_le (zs : List Int) (o : List Nat) : ∀ j, j ≤ o.length → 65536 - 65536 * (j : Int) ≤ msF zs o j ∧ msF zs o j ≤ 65536
  | 0, _ => by show (65536 : Int) - 65536 * 0 ≤ 65536 ∧ (65536 : Int) ≤ 65536; omega
  | j + 1, hj => by
    obtain ⟨h1, h2⟩ := msF_le zs o j (by omega)
    have hw := wgF_bound zs o (show j < o.length by omega)
    show 65536 - 65536 * ((j + 1 : Nat) : Int) ≤ msF zs o j - wgF zs o j ∧ msF zs o j - wgF zs o j ≤ 65536
    omega
end Go.Proofs.YtbppahmcjifflaaDoor
