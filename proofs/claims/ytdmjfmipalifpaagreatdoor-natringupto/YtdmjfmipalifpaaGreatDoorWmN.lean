/-
  Steps of the loops over digits: sums, products, divisions by one digit.
-/
import Derived.Test.YtdmjfmipalifpaaGreatDoorNvN
namespace Go.Proofs.YtdmjfmipalifpaaGreatDoor

theorem val_take_succ (B : Nat) (L : List Nat) (i : Nat) : val B (L.take (i + 1)) = val B (L.take i) + B ^ i * L.getD i 0 := by
  rcases Nat.lt_or_ge i L.length with h | h
  · rw [List.take_succ_eq_append_getElem h, val_snoc, List.length_take, Nat.min_eq_left (by omega), List.getD_eq_getElem?_getD, List.getElem?_eq_getElem h]
    rfl
  · rw [List.take_of_length_le (by omega), List.take_of_length_le h, List.getD_eq_getElem?_getD, List.getElem?_eq_none h]
    simp
theorem val_take_all (B : Nat) (L : List Nat) (i : Nat) (h : L.length ≤ i) : val B (L.take i) = val B L := by rw [List.take_of_length_le h]

/-- A product of two digits with two more is two digits. -/
theorem mul_room {B z x m c : Nat} (hz : z < B) (hx : x < B) (hm : m < B) (hc : c < B) : z + x * m + c < B * B := by
  have h1 := Nat.mul_le_mul (show x ≤ B - 1 by omega) (show m ≤ B - 1 by omega)
  obtain ⟨k, rfl⟩ : ∃ k, B = k + 1 := ⟨B - 1, by omega⟩
  rw [Nat.add_sub_cancel] at h1
  rw [Nat.add_mul, Nat.mul_add]
  omega
theorem div_room {B s : Nat} (h : s < B * B) : s / B < B := Nat.div_lt_of_lt_mul h

/-- What the words of the machine make of it. -/
theorem word_step {z x m c : Nat} (hz : z < 18446744073709551616) (hx : x < 18446744073709551616) (hm : m < 18446744073709551616) (hc : c < 18446744073709551616) :
    (z + (x * m % 18446744073709551616 + c) % 18446744073709551616) % 18446744073709551616 = (z + x * m + c) % 18446744073709551616 ∧
    x * m / 18446744073709551616 + (x * m % 18446744073709551616 + c) / 18446744073709551616 + (z + (x * m % 18446744073709551616 + c) % 18446744073709551616) / 18446744073709551616 = (z + x * m + c) / 18446744073709551616 ∧
    (z + x * m + c) / 18446744073709551616 < 18446744073709551616 := by
  refine ⟨by omega, by omega, div_room (mul_room hz hx hm hc)⟩
theorem scale_step {x m c : Nat} (hx : x < 18446744073709551616) (hm : m < 18446744073709551616) (hc : c < 18446744073709551616) :
    (x * m % 18446744073709551616 + c) % 18446744073709551616 = (x * m + c) % 18446744073709551616 ∧
    x * m / 18446744073709551616 + (x * m % 18446744073709551616 + c) / 18446744073709551616 = (x * m + c) / 18446744073709551616 ∧
    (x * m + c) / 18446744073709551616 < 18446744073709551616 := by
  refine ⟨by omega, by omega, ?_⟩
  have := mul_room (z := 0) (by omega) hx hm hc
  rw [Nat.zero_add] at this
  exact div_room this

/-- The loop that adds x times m: what is written so far, and what is carried. -/
theorem addT_step {B : Nat} {A Z X : List Nat} {m c : Nat} (h : val B A + B ^ A.length * c = val B (Z.take A.length) + m * val B (X.take A.length)) :
    val B (A ++ [(Z.getD A.length 0 + X.getD A.length 0 * m + c) % B]) + B ^ (A ++ [(Z.getD A.length 0 + X.getD A.length 0 * m + c) % B]).length * ((Z.getD A.length 0 + X.getD A.length 0 * m + c) / B) = val B (Z.take (A.length + 1)) + m * val B (X.take (A.length + 1)) := by
  rw [val_snoc, val_take_succ, val_take_succ, List.length_append, List.length_singleton, Nat.pow_succ, Nat.mul_add m]
  have e := Nat.mod_add_div (Z.getD A.length 0 + X.getD A.length 0 * m + c) B
  have e2 := congrArg (B ^ A.length * ·) e
  simp only [Nat.mul_add] at e2
  rw [Nat.mul_assoc]
  rw [show m * (B ^ A.length * X.getD A.length 0) = B ^ A.length * (X.getD A.length 0 * m) by rw [Nat.mul_comm m, Nat.mul_assoc]]
  generalize B ^ A.length * (X.getD A.length 0 * m) = p1 at *
  generalize B ^ A.length * Z.getD A.length 0 = p2 at *
  generalize B ^ A.length * c = p3 at *
  generalize B ^ A.length * ((Z.getD A.length 0 + X.getD A.length 0 * m + c) % B) = p4 at *
  generalize B ^ A.length * (B * ((Z.getD A.length 0 + X.getD A.length 0 * m + c) / B)) = p5 at *
  omega
/-- The loop that multiplies. -/
theorem scl_step {B : Nat} {A Z : List Nat} {m c k : Nat} (h : val B A + B ^ A.length * c = m * val B (Z.take A.length) + k) :
    val B (A ++ [(Z.getD A.length 0 * m + c) % B]) + B ^ (A ++ [(Z.getD A.length 0 * m + c) % B]).length * ((Z.getD A.length 0 * m + c) / B) = m * val B (Z.take (A.length + 1)) + k := by
  rw [val_snoc, val_take_succ, List.length_append, List.length_singleton, Nat.pow_succ, Nat.mul_add m]
  have e := Nat.mod_add_div (Z.getD A.length 0 * m + c) B
  have e2 := congrArg (B ^ A.length * ·) e
  simp only [Nat.mul_add] at e2
  rw [Nat.mul_assoc]
  rw [show m * (B ^ A.length * Z.getD A.length 0) = B ^ A.length * (Z.getD A.length 0 * m) by rw [Nat.mul_comm m, Nat.mul_assoc]]
  generalize B ^ A.length * (Z.getD A.length 0 * m) = p1 at *
  generalize B ^ A.length * c = p3 at *
  generalize B ^ A.length * ((Z.getD A.length 0 * m + c) % B) = p4 at *
  generalize B ^ A.length * (B * ((Z.getD A.length 0 * m + c) / B)) = p5 at *
  omega
/-- The loop that divides by one digit, from the last down. -/
theorem spl_step {B : Nat} {R Q : List Nat} {z d l : Nat} (h : val B R = d * val B Q + l) : val B (z :: R) = d * val B ((l * B + z) / d :: Q) + (l * B + z) % d := by
  simp only [val]
  have e := Nat.div_add_mod (l * B + z) d
  rw [h, Nat.mul_add, Nat.mul_add, ← Nat.mul_assoc, ← Nat.mul_assoc, Nat.mul_comm B d, Nat.mul_comm B l]
  generalize d * B * val B Q = p at *
  generalize d * ((l * B + z) / d) = p1 at *
  omega
theorem spl_room {B d l z : Nat} (hl : l < d) (hz : z < B) : (l * B + z) / d < B := by
  rw [Nat.div_lt_iff_lt_mul (by omega)]
  have := Nat.mul_le_mul_right B (show l + 1 ≤ d by omega)
  rw [Nat.mul_comm B d]
  rw [Nat.add_mul] at this
  omega
/-- The loop of a sum. -/
theorem sum_step {B : Nat} {A X Y : List Nat} {c : Nat} (h : val B A + B ^ A.length * c = val B (X.take A.length) + val B (Y.take A.length)) :
    val B (A ++ [(X.getD A.length 0 + Y.getD A.length 0 + c) % B]) + B ^ (A ++ [(X.getD A.length 0 + Y.getD A.length 0 + c) % B]).length * ((X.getD A.length 0 + Y.getD A.length 0 + c) / B) = val B (X.take (A.length + 1)) + val B (Y.take (A.length + 1)) := by
  rw [val_snoc, val_take_succ, val_take_succ, List.length_append, List.length_singleton, Nat.pow_succ, Nat.mul_assoc]
  have e := Nat.mod_add_div (X.getD A.length 0 + Y.getD A.length 0 + c) B
  have e2 := congrArg (B ^ A.length * ·) e
  simp only [Nat.mul_add] at e2
  generalize B ^ A.length * X.getD A.length 0 = p1 at *
  generalize B ^ A.length * Y.getD A.length 0 = p2 at *
  generalize B ^ A.length * c = p3 at *
  generalize B ^ A.length * ((X.getD A.length 0 + Y.getD A.length 0 + c) % B) = p4 at *
  generalize B ^ A.length * (B * ((X.getD A.length 0 + Y.getD A.length 0 + c) / B)) = p5 at *
  omega
/-- The next one of a row written. -/
theorem set_next (X Z : List Nat) (d : Nat) (h : X.length < Z.length) : (X ++ Z.drop X.length).set X.length d = (X ++ [d]) ++ Z.drop (X.length + 1) := by
  rw [List.set_append_right _ _ (Nat.le_refl _), Nat.sub_self, List.drop_eq_getElem_cons h, List.set_cons_zero, List.append_assoc]
  rfl
theorem getD_next (X Z : List Nat) : (X ++ Z.drop X.length).getD X.length 0 = Z.getD X.length 0 := by
  rw [List.getD_eq_getElem?_getD, List.getElem?_append_right (Nat.le_refl _), List.getD_eq_getElem?_getD, List.getElem?_drop, Nat.sub_self, Nat.add_zero]
/-- The one ahead of those that are written, from the last down. -/
theorem set_prev (Z Q : List Nat) (i d : Nat) (h : i < Z.length) : (Z.take (i + 1) ++ Q).set i d = Z.take i ++ d :: Q := by
  rw [List.take_succ_eq_append_getElem h, List.append_assoc, List.set_append_right _ _ (by simp; omega)]
  simp [Nat.min_eq_left (Nat.le_of_lt h)]
theorem getD_prev (Z Q : List Nat) (i : Nat) (h : i < Z.length) : (Z.take (i + 1) ++ Q).getD i 0 = Z.getD i 0 := by
  rw [List.getD_eq_getElem?_getD, List.getElem?_append_left (by simp; omega), List.getD_eq_getElem?_getD, List.getElem?_take_of_lt (by omega)]
theorem pow_room (B P : Nat) (hB : 0 < B) : (B - 1) * P + P = B * P := by
  obtain ⟨k, rfl⟩ : ∃ k, B = k + 1 := ⟨B - 1, by omega⟩
  rw [Nat.add_sub_cancel, Nat.add_mul, Nat.one_mul]
/-- One digit of a product: what is added lies in its room. -/
theorem times_step {B : Nat} {X Y Z P : List Nat} {i m o : Nat} (hB : 0 < B) (hX : Dg B X) (hY : Dg B Y) (hi : i ≤ Y.length) (hv : val B Z = val B X * val B (Y.take i)) (hlen : i + (X.length + 1) ≤ Z.length) (hm : m < B) (hP : P.length = X.length + 1)
    (hp : val B P + B ^ (X.length + 1) * o = val B ((Z.drop i).take (X.length + 1)) + m * val B X) :
    val B (Z.take i ++ P ++ Z.drop (i + (X.length + 1))) = val B X * (val B (Y.take i) + B ^ i * m) := by
  have h1 := val_split B Z i (by omega)
  have h2 := val_split B (Z.drop i) (X.length + 1) (by simp; omega)
  rw [List.drop_drop] at h2
  have hx := val_lt hB hX
  have hy := val_lt hB (hY.take i)
  rw [List.length_take, Nat.min_eq_left hi] at hy
  have hz : val B Z < B ^ X.length * B ^ i := by rw [hv]; exact Nat.mul_lt_mul'' hx hy
  rw [val_append, val_append, List.length_append, List.length_take, Nat.min_eq_left (by omega), hP, Nat.mul_add (val B X), ← hv]
  generalize val B (Z.take i) = a at *
  generalize val B ((Z.drop i).take (X.length + 1)) = c at *
  generalize val B (Z.drop (i + (X.length + 1))) = d at *
  generalize val B (Z.drop i) = e at *
  have hBi : 0 < B ^ i := Nat.pow_pos hB
  have he : e < B ^ X.length := by
    have : B ^ i * e < B ^ i * B ^ X.length := by rw [Nat.mul_comm (B ^ i) (B ^ X.length)]; omega
    exact Nat.lt_of_mul_lt_mul_left this
  have hpow : B ^ (X.length + 1) = B * B ^ X.length := by rw [Nat.pow_succ, Nat.mul_comm]
  have hbn : B ^ X.length ≤ B ^ (X.length + 1) := Nat.pow_le_pow_right hB (by omega)
  have hd : d = 0 := by
    rcases Nat.eq_zero_or_pos d with h | h
    · exact h
    · have := Nat.le_mul_of_pos_right (B ^ (X.length + 1)) h
      omega
  subst hd
  have hmx : m * val B X ≤ (B - 1) * B ^ X.length := Nat.mul_le_mul (by omega) (Nat.le_of_lt hx)
  have hb1 := pow_room B (B ^ X.length) hB
  have ho : o = 0 := by
    rcases Nat.eq_zero_or_pos o with h | h
    · exact h
    · have := Nat.le_mul_of_pos_right (B ^ (X.length + 1)) h
      omega
  subst ho
  rw [Nat.mul_zero, Nat.add_zero] at h2 hp ⊢
  rw [h1, hp, h2, Nat.mul_add, show B ^ i * (m * val B X) = val B X * (B ^ i * m) by rw [← Nat.mul_assoc, Nat.mul_comm], Nat.add_assoc]
end Go.Proofs.YtdmjfmipalifpaaGreatDoor
