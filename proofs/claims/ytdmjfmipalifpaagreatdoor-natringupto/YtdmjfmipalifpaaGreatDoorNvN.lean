/-
  Numbers by their digits: what a row of digits is worth, that it is the only one, how many binary digits it has.
-/
import Derived.WalkKit
import Derived.Lib.ItoaNum
import Derived.Lib.ItoaMem
namespace Go.Proofs.YtdmjfmipalifpaaGreatDoor

/-- The number whose digits to the base B these are, the least first. -/
def val (B : Nat) : List Nat → Nat
  | [] => 0
  | d :: r => d + B * val B r

theorem val_append (B : Nat) (a b : List Nat) : val B (a ++ b) = val B a + B ^ a.length * val B b := by
  induction a with
  | nil => simp [val]
  | cons d r ih =>
    simp only [List.cons_append, val, ih, List.length_cons, Nat.pow_succ]
    rw [Nat.mul_add, Nat.add_assoc, Nat.mul_comm (B ^ _) B, Nat.mul_assoc]
theorem val_snoc (B : Nat) (a : List Nat) (d : Nat) : val B (a ++ [d]) = val B a + B ^ a.length * d := by
  rw [val_append]; simp [val]
theorem val_zeros (B k : Nat) : val B (List.replicate k 0) = 0 := by
  induction k with
  | zero => rfl
  | succ k ih => simp [List.replicate_succ, val, ih]

/-- All are digits. -/
def Dg (B : Nat) (l : List Nat) : Prop := ∀ d ∈ l, d < B
theorem Dg.append {B : Nat} {a b : List Nat} (h : Dg B a) (k : Dg B b) : Dg B (a ++ b) := fun d hd => by
  rcases List.mem_append.1 hd with e | e
  · exact h d e
  · exact k d e
theorem Dg.nil (B : Nat) : Dg B [] := fun _ h => by cases h
theorem Dg.one {B d : Nat} (h : d < B) : Dg B [d] := fun x hx => by simp at hx; omega
theorem Dg.tail {B d : Nat} {r : List Nat} (h : Dg B (d :: r)) : Dg B r := fun x hx => h x (List.mem_cons_of_mem _ hx)
theorem Dg.take {B : Nat} {l : List Nat} (h : Dg B l) (n : Nat) : Dg B (l.take n) := fun x hx => h x (List.mem_of_mem_take hx)
theorem Dg.drop {B : Nat} {l : List Nat} (h : Dg B l) (n : Nat) : Dg B (l.drop n) := fun x hx => h x (List.mem_of_mem_drop hx)
theorem Dg.zeros {B : Nat} (hB : 0 < B) (k : Nat) : Dg B (List.replicate k 0) := fun x hx => by
  have := (List.mem_replicate.1 hx).2; omega
theorem Dg.getD {B : Nat} (hB : 0 < B) {l : List Nat} (h : Dg B l) (i : Nat) : l.getD i 0 < B := by
  rw [List.getD_eq_getElem?_getD]
  cases e : l[i]? with
  | none => exact hB
  | some d => exact h d (List.mem_of_getElem? e)
theorem Dg.set {B : Nat} {l : List Nat} (h : Dg B l) (i : Nat) {d : Nat} (hd : d < B) : Dg B (l.set i d) := fun x hx => by
  rcases List.mem_or_eq_of_mem_set hx with e | e
  · exact h x e
  · omega

theorem val_lt {B : Nat} (_hB : 0 < B) {l : List Nat} (h : Dg B l) : val B l < B ^ l.length := by
  induction l with
  | nil => simp [val]
  | cons d r ih =>
    have h1 := ih h.tail
    have h2 := h d (List.mem_cons_self)
    have h3 := Nat.mul_le_mul_left B (show val B r + 1 ≤ B ^ r.length by omega)
    rw [Nat.mul_add] at h3
    simp only [val, List.length_cons, Nat.pow_succ]
    rw [Nat.mul_comm (B ^ _) B]
    omega

/-- The last one is not 0. -/
def Can (l : List Nat) : Prop := l.getLast? ≠ some 0
theorem Can.nil : Can [] := by simp [Can]
theorem can_tail {d : Nat} {r : List Nat} (h : Can (d :: r)) : Can r := by
  cases r with
  | nil => exact Can.nil
  | cons e t => unfold Can at *; rwa [List.getLast?_cons_cons] at h
theorem can_snoc {a : List Nat} {d : Nat} (h : d ≠ 0) : Can (a ++ [d]) := by simp [Can, h]

theorem val_pos {B : Nat} (hB : 0 < B) {l : List Nat} (h : Can l) (hl : l ≠ []) : 0 < val B l := by
  induction l with
  | nil => exact absurd rfl hl
  | cons d r ih =>
    cases r with
    | nil => simp [Can] at h; simp [val]; omega
    | cons e t =>
      have := ih (can_tail h) (by simp)
      have := Nat.mul_pos hB this
      simp only [val] at *
      omega
theorem val_eq_zero {B : Nat} (hB : 0 < B) {l : List Nat} (h : Can l) : val B l = 0 ↔ l = [] := by
  constructor
  · intro e
    rcases Classical.em (l = []) with c | c
    · exact c
    · have := val_pos hB h c; omega
  · rintro rfl; rfl

theorem val_inj {B : Nat} (hB : 0 < B) : ∀ {a b : List Nat}, Dg B a → Dg B b → Can a → Can b → val B a = val B b → a = b
  | [], b, _, _, _, cb, e => ((val_eq_zero hB cb).1 (by rw [← e]; rfl)).symm
  | d :: r, [], _, _, ca, _, e => (val_eq_zero hB ca).1 (by rw [e]; rfl)
  | d :: r, f :: s, da, db, ca, cb, e => by
    have h1 := da d (List.mem_cons_self)
    have h2 := db f (List.mem_cons_self)
    simp only [val] at e
    have e1 : d = f := by
      have := congrArg (· % B) e
      simpa [Nat.add_mul_mod_self_left, Nat.mod_eq_of_lt h1, Nat.mod_eq_of_lt h2] using this
    have e2 : val B r = val B s := by
      subst e1
      exact Nat.eq_of_mul_eq_mul_left hB (by omega)
    rw [e1, val_inj hB da.tail db.tail (can_tail ca) (can_tail cb) e2]

/-- Digits split off. -/
theorem val_split (B : Nat) (l : List Nat) (n : Nat) (h : n ≤ l.length) : val B l = val B (l.take n) + B ^ n * val B (l.drop n) := by
  have := val_append B (l.take n) (l.drop n)
  rwa [List.take_append_drop, List.length_take, Nat.min_eq_left h] at this

/-- One digit set. -/
theorem val_set (B : Nat) : ∀ (l : List Nat) (i d : Nat), i < l.length → val B (l.set i d) + B ^ i * l.getD i 0 = val B l + B ^ i * d
  | [], i, d, h => by simp at h
  | c :: r, 0, d, _ => by simp [val]; omega
  | c :: r, i + 1, d, h => by
    have := val_set B r i d (by simpa using h)
    have := congrArg (B * ·) this
    simp only [Nat.mul_add] at this
    simp only [List.set_cons_succ, val, List.getD_cons_succ, Nat.pow_succ]
    rw [Nat.mul_comm (B ^ i) B, Nat.mul_assoc, Nat.mul_assoc]
    omega

/-- Without the noughts at its end: what a beginning is, behind which there are noughts alone. -/
theorem val_take (B : Nat) (l : List Nat) (n : Nat) (h : n ≤ l.length) (h0 : ∀ i, n ≤ i → l.getD i 0 = 0) : val B (l.take n) = val B l := by
  rw [val_split B l n h]
  have e : l.drop n = List.replicate (l.length - n) 0 := by
    apply List.ext_getElem
    · simp
    · intro i h1 h2
      have := h0 (n + i) (by omega)
      rw [List.getD_eq_getElem?_getD, List.getElem?_eq_getElem (by simp at h1; omega)] at this
      simpa using this
  rw [e, val_zeros, Nat.mul_zero, Nat.add_zero]
theorem can_take (l : List Nat) (n : Nat) (h : n ≤ l.length) (h0 : n = 0 ∨ l.getD (n - 1) 0 ≠ 0) : Can (l.take n) := by
  rcases Nat.eq_zero_or_pos n with e | e
  · subst e; simp [Can]
  · have h1 := h0.resolve_left (by omega)
    unfold Can
    rw [List.getLast?_take, if_neg (by omega)]
    rw [List.getD_eq_getElem?_getD] at h1
    cases c : l[n - 1]? with
    | none => rw [c] at h1; simp at h1
    | some d => rw [c] at h1; simpa using h1

/-- How many binary digits. -/
def bl (n : Nat) : Nat := if n = 0 then 0 else Nat.log2 n + 1
theorem bl_zero : bl 0 = 0 := rfl
theorem bl_pos {n : Nat} (h : n ≠ 0) : 2 ^ (bl n - 1) ≤ n ∧ n < 2 ^ bl n ∧ 1 ≤ bl n := by
  unfold bl
  rw [if_neg h]
  exact ⟨by simpa using Nat.log2_self_le h, Nat.lt_log2_self, by omega⟩
theorem lt_bl (n : Nat) : n < 2 ^ bl n := by
  rcases Classical.em (n = 0) with e | e
  · subst e; simp [bl]
  · exact (bl_pos e).2.1
theorem bl_le {n k : Nat} (h : n < 2 ^ k) : bl n ≤ k := by
  rcases Classical.em (n = 0) with e | e
  · subst e; simp [bl]
  · have h1 := (bl_pos e).1
    have : 2 ^ (bl n - 1) < 2 ^ k := Nat.lt_of_le_of_lt h1 h
    have := (Nat.pow_lt_pow_iff_right (by omega : 1 < 2)).1 this
    omega
theorem bl_le_iff (n k : Nat) : bl n ≤ k ↔ n < 2 ^ k :=
  ⟨fun h => Nat.lt_of_lt_of_le (lt_bl n) (Nat.pow_le_pow_right (by omega) h), bl_le⟩
theorem bl_eq {n k : Nat} (h1 : 2 ^ k ≤ n) (h2 : n < 2 ^ (k + 1)) : bl n = k + 1 := by
  have := bl_le h2
  have h3 : ¬ bl n ≤ k := fun c => by have := (bl_le_iff n k).1 c; omega
  omega
theorem bl_mono {a b : Nat} (h : a ≤ b) : bl a ≤ bl b := bl_le (Nat.lt_of_le_of_lt h (lt_bl b))
theorem bl_bitLen {n : Nat} (h : n < 18446744073709551616) : Lib.bitLen n = bl n := by
  rcases Classical.em (n = 0) with e | e
  · subst e; simp [bl, Lib.bitLen, Lib.bitLenAux]
  · obtain ⟨h1, h2, h3⟩ := Lib.bitLenAux_bounds 64 n h e
    have := bl_eq (k := Lib.bitLenAux 64 n - 1) h2 (by rw [show Lib.bitLenAux 64 n - 1 + 1 = Lib.bitLenAux 64 n by omega]; exact h3)
    unfold Lib.bitLen
    omega
theorem bl_half {n : Nat} (h : n ≠ 0) : bl n = bl (n / 2) + 1 := by
  rcases Nat.lt_or_ge n 2 with c | c
  · have e : n = 1 := by omega
    subst e; rfl
  · obtain ⟨h1, h2, h3⟩ := bl_pos (n := n / 2) (by omega)
    refine bl_eq ?_ ?_
    · have : 2 ^ bl (n / 2) = 2 ^ (bl (n / 2) - 1) * 2 := by rw [← Nat.pow_succ]; congr 1; omega
      omega
    · rw [Nat.pow_succ]; omega
/-- The binary digits of a row of digits: those of the last, and all of the others. -/
theorem bl_snoc (j : Nat) (a : List Nat) (d : Nat) (ha : Dg (2 ^ j) a) (hd : d ≠ 0) : bl (val (2 ^ j) (a ++ [d])) = j * a.length + bl d := by
  obtain ⟨h1, h2, h3⟩ := bl_pos hd
  have hv := val_lt (Nat.pow_pos (by omega)) ha
  rw [val_snoc, ← Nat.pow_mul] at *
  generalize j * a.length = K at *
  generalize val (2 ^ j) a = V at *
  have e : K + bl d = (K + (bl d - 1)) + 1 := by omega
  rw [e]
  refine bl_eq ?_ ?_
  · rw [Nat.pow_add]
    have := Nat.mul_le_mul_left (2 ^ K) h1
    omega
  · rw [show K + (bl d - 1) + 1 = K + bl d by omega, Nat.pow_add]
    have := Nat.mul_le_mul_left (2 ^ K) (show d + 1 ≤ 2 ^ bl d by omega)
    rw [Nat.mul_add] at this
    omega
end Go.Proofs.YtdmjfmipalifpaaGreatDoor
