/-
  Texts of numbers, read: digits, what they spell, how far a text is one. Numbers only.
-/
import Derived.Test.YtdmjfmipalifpaaGreatDoorTxN
import Derived.Test.YtdmjfmipalifpaaGreatDoorNvN
import Derived.Lib.ParseIntB
namespace Go.Proofs.YtdmjfmipalifpaaGreatDoor

/-- A decimal digit. -/
def isD (b : UInt8) : Bool := decide (48 ≤ b.toNat ∧ b.toNat ≤ 57)
theorem isD_iff (b : UInt8) : isD b = true ↔ 48 ≤ b.toNat ∧ b.toNat ≤ 57 := by unfold isD; rw [decide_eq_true_iff]
/-- Digits alone. -/
def Ds (l : List UInt8) : Prop := ∀ b ∈ l, isD b = true
theorem Ds.nil : Ds [] := fun _ h => by cases h
theorem Ds.append {a b : List UInt8} (h : Ds a) (k : Ds b) : Ds (a ++ b) := fun x hx => by
  rcases List.mem_append.1 hx with h' | h'
  · exact h x h'
  · exact k x h'
theorem Ds.left {a b : List UInt8} (h : Ds (a ++ b)) : Ds a := fun x hx => h x (List.mem_append_left _ hx)
theorem Ds.right {a b : List UInt8} (h : Ds (a ++ b)) : Ds b := fun x hx => h x (List.mem_append_right _ hx)
theorem Ds.take {a : List UInt8} (h : Ds a) (n : Nat) : Ds (a.take n) := fun x hx => h x (List.mem_of_mem_take hx)
theorem Ds.drop {a : List UInt8} (h : Ds a) (n : Nat) : Ds (a.drop n) := fun x hx => h x (List.mem_of_mem_drop hx)

/-- What digits spell, behind others. -/
def dna (n : Nat) (l : List UInt8) : Nat := l.foldl (fun n b => n * 10 + (b.toNat - 48)) n
/-- What digits spell. -/
def dn (l : List UInt8) : Nat := dna 0 l
theorem dna_eq : ∀ (l : List UInt8) (n : Nat), dna n l = n * 10 ^ l.length + dna 0 l
  | [], n => by simp [dna]
  | b :: r, n => by
    have h1 := dna_eq r (n * 10 + (b.toNat - 48))
    have h2 := dna_eq r (0 * 10 + (b.toNat - 48))
    show dna (n * 10 + (b.toNat - 48)) r = n * 10 ^ (r.length + 1) + dna (0 * 10 + (b.toNat - 48)) r
    rw [h1, h2, Nat.add_mul, Nat.pow_succ, Nat.mul_assoc, Nat.mul_comm 10 (10 ^ r.length), Nat.zero_mul, Nat.zero_add, Nat.add_assoc]
theorem dn_append (a b : List UInt8) : dn (a ++ b) = dn a * 10 ^ b.length + dn b := by
  unfold dn
  rw [← dna_eq]
  unfold dna
  rw [List.foldl_append]
theorem dn_snoc (a : List UInt8) (b : UInt8) : dn (a ++ [b]) = dn a * 10 + (b.toNat - 48) := by
  rw [dn_append]
  show dn a * 10 ^ 1 + dna 0 [b] = _
  simp [dna]
theorem dn_lt : ∀ (l : List UInt8), Ds l → dn l < 10 ^ l.length := by
  intro l
  induction hn : l.length generalizing l with
  | zero => intro _; obtain rfl := List.length_eq_zero_iff.1 hn; decide
  | succ n ih =>
    intro h
    rcases List.eq_nil_or_concat l with rfl | ⟨a, b, rfl⟩
    · simp at hn
    · rw [List.concat_eq_append] at *
      have h1 := ih a (by simp at hn; exact hn) h.left
      have h2 := (isD_iff b).1 (h b (by simp))
      rw [dn_snoc, Nat.pow_succ]
      omega
theorem parseM_dna {M : Nat} : ∀ (l : List UInt8) (n : Nat), Ds l → n * 10 ^ l.length + 10 ^ l.length ≤ 10000000000000000000 → 10000000000000000000 ≤ M → Lib.parseUintM M n l = .ok (dna n l)
  | [], n, _, _, _ => rfl
  | b :: r, n, h, hl, hM => by
    have hb := (isD_iff b).1 (h b (by simp))
    have hp : 1 ≤ 10 ^ r.length := Nat.one_le_pow _ _ (by decide)
    rw [List.length_cons, Nat.pow_succ] at hl
    generalize hP : 10 ^ r.length = P at *
    generalize hd : b.toNat - 48 = d at *
    have e2 : (n * 10 + 9) * P + P = n * (P * 10) + P * 10 := by rw [Nat.add_mul, Nat.mul_assoc, Nat.mul_comm P 10]; omega
    have h0 : (n * 10 + d) * P ≤ (n * 10 + 9) * P := Nat.mul_le_mul_right _ (by omega)
    have h1 : (n * 10 + d) * P + P ≤ 10000000000000000000 := by
      generalize (n * 10 + d) * P = u at *
      generalize (n * 10 + 9) * P = v at *
      generalize n * (P * 10) = x at *
      omega
    have h2 : (n * 10 + d + 1) * 1 ≤ (n * 10 + d + 1) * P := Nat.mul_le_mul_left _ hp
    rw [Nat.add_mul (n * 10 + d) 1 P, Nat.one_mul, Nat.mul_one] at h2
    have h3 : n * 10 + d + 1 ≤ 10000000000000000000 := by
      generalize (n * 10 + d) * P = u at *
      omega
    clear e2 h0 h2 hl
    rw [← hP] at h1
    subst hd
    unfold Lib.parseUintM
    rw [if_pos hb, if_neg (by omega), if_neg (by omega), parseM_dna r _ (fun x hx => h x (by simp [hx])) h1 hM]
    rfl
/-- ParseUint of up to 19 digits. -/
theorem parse_dn (l : List UInt8) (hl : l ≠ []) (h : Ds l) (hn : l.length ≤ 19) : Lib.parseUintB 64 l = .ok (dn l) := by
  unfold Lib.parseUintB
  rw [if_neg hl, parseM_dna l 0 h (by have := Nat.pow_le_pow_right (n := 10) (by decide) hn; simpa using this) (by decide)]
  rfl

/-- The text of what was read. -/
theorem dE_dn : ∀ (l : List UInt8), Ds l → l.head? ≠ some 48 → dE (dn l) = l := by
  intro l
  induction hn : l.length generalizing l with
  | zero => intro _ _; obtain rfl := List.length_eq_zero_iff.1 hn; rfl
  | succ n ih =>
    intro h h0
    rcases List.eq_nil_or_concat l with rfl | ⟨a, b, rfl⟩
    · simp at hn
    · rw [List.concat_eq_append] at *
      have hb := (isD_iff b).1 (h b (by simp))
      have hbe : UInt8.ofNat (48 + (b.toNat - 48)) = b := by rw [show 48 + (b.toNat - 48) = b.toNat by omega]; simp
      have h1 := ih a (by simp at hn; exact hn) h.left
      rw [dn_snoc]
      by_cases ha : a = []
      · subst ha
        have hb0 : b.toNat ≠ 48 := fun e => h0 (by
          have : b = 48 := by rw [← UInt8.toNat_inj]; exact e
          rw [this]; rfl)
        rw [show dn [] = 0 from rfl, Nat.zero_mul, Nat.zero_add, dE_step (by omega), show (b.toNat - 48) / 10 = 0 by omega, show (b.toNat - 48) % 10 = b.toNat - 48 by omega, hbe]
        rfl
      · have h2 := h1 (by cases a with | nil => exact absurd rfl ha | cons x r => simpa using h0)
        have h3 : dn a ≠ 0 := fun e => ha (by rw [e, dE_zero] at h2; exact h2.symm)
        rw [dE_step (by omega), show (dn a * 10 + (b.toNat - 48)) / 10 = dn a by omega, show (dn a * 10 + (b.toNat - 48)) % 10 = b.toNat - 48 by omega, hbe, h2]
theorem dec_zero : Lib.decDigits 0 = [48] := by rw [Lib.decDigits]; rfl
theorem dec_dn (l : List UInt8) (h : Ds l) (hl : l ≠ []) (h0 : l.head? ≠ some 48 ∨ l = [48]) : Lib.decDigits (dn l) = l := by
  rcases h0 with h0 | rfl
  · have h1 := dE_dn l h h0
    have h2 : dn l ≠ 0 := fun e => hl (by rw [e, dE_zero] at h1; exact h1.symm)
    rw [← dE_pos h2, h1]
  · exact dec_zero
/-- A number's text, read. -/
theorem dn_dE (n : Nat) : Ds (dE n) ∧ dn (dE n) = n := by
  induction n using Nat.strongRecOn with
  | ind n ih =>
    by_cases h : n = 0
    · subst h; exact ⟨by rw [dE_zero]; exact Ds.nil, rfl⟩
    · obtain ⟨h1, h2⟩ := ih (n / 10) (by omega)
      have hb : (UInt8.ofNat (48 + n % 10)).toNat = 48 + n % 10 := by rw [UInt8.toNat_ofNat']; omega
      rw [dE_step h]
      refine ⟨h1.append (fun x hx => ?_), ?_⟩
      · rw [List.mem_singleton] at hx
        rw [hx, isD_iff, hb]
        omega
      · rw [dn_snoc, h2, hb]
        omega
theorem dec_read (n : Nat) : Ds (Lib.decDigits n) ∧ dn (Lib.decDigits n) = n := by
  by_cases h : n = 0
  · subst h; exact ⟨fun x hx => by rw [dec_zero] at hx; rw [List.mem_singleton] at hx; rw [hx]; rfl, by rw [dec_zero]; rfl⟩
  · rw [← dE_pos h]; exact dn_dE n

/-- How far a text is digits, from place i on. -/
structure Pre (l : List UInt8) (n : Nat) : Prop where
  le : n ≤ l.length
  ds : Ds (l.take n)
  stop : ∀ b, l[n]? = some b → isD b = false
theorem pre_unique {l : List UInt8} {m n : Nat} (hm : Pre l m) (hn : Pre l n) : m = n := by
  rcases Nat.lt_trichotomy m n with h | h | h
  · exfalso
    have h1 : m < l.length := by have := hn.le; omega
    have h2 := hm.stop l[m] (by simp [h1])
    have h3 := hn.ds l[m] (List.mem_take_iff_getElem.2 ⟨m, by omega, rfl⟩)
    rw [h3] at h2; cases h2
  · exact h
  · exfalso
    have h1 : n < l.length := by have := hm.le; omega
    have h2 := hn.stop l[n] (by simp [h1])
    have h3 := hm.ds l[n] (List.mem_take_iff_getElem.2 ⟨n, by omega, rfl⟩)
    rw [h3] at h2; cases h2
/-- How far a text is the beginning of one of a number. -/
def tE (l : List UInt8) : Nat := if l.head? = some 48 then 1 else (l.takeWhile isD).length
theorem pre_takeWhile : ∀ (l : List UInt8), Pre l (l.takeWhile isD).length
  | [] => ⟨by simp, by simp [Ds.nil], by simp⟩
  | b :: r => by
    have h := pre_takeWhile r
    by_cases hb : isD b = true
    · rw [List.takeWhile_cons_of_pos hb, List.length_cons]
      refine ⟨by have := h.le; simp; omega, ?_, by intro c hc; rw [List.getElem?_cons_succ] at hc; exact h.stop c hc⟩
      rw [List.take_succ_cons]
      intro x hx
      rcases List.mem_cons.1 hx with e | e
      · rw [e]; exact hb
      · exact h.ds x e
    · rw [List.takeWhile_cons_of_neg hb]
      exact ⟨by simp, by simp [Ds.nil], by intro c hc; simp at hc; rw [← hc]; simpa using hb⟩
theorem tE_zero {l : List UInt8} (h : l.head? = some 48) : tE l = 1 := if_pos h
theorem tE_pre {l : List UInt8} (h : l.head? ≠ some 48) {n : Nat} (hn : Pre l n) : tE l = n := by
  unfold tE
  rw [if_neg h]
  exact pre_unique (pre_takeWhile _) hn
theorem tE_le (l : List UInt8) : tE l ≤ l.length := by
  unfold tE
  split
  · rename_i h
    cases l with
    | nil => cases h
    | cons => simp
  · exact (pre_takeWhile _).le
/-- A whole text of a number. -/
theorem tE_all {l : List UInt8} (h : ¬ tE l < l.length) : Ds l ∧ (l.head? ≠ some 48 ∨ l = [48]) := by
  by_cases h0 : l.head? = some 48
  · rw [tE_zero h0] at h
    cases l with
    | nil => cases h0
    | cons b r =>
      simp at h0
      subst h0
      have : r = [] := by
        cases r with
        | nil => rfl
        | cons => simp at h
      subst this
      exact ⟨fun x hx => by rw [List.mem_singleton] at hx; rw [hx]; rfl, .inr rfl⟩
  · rw [tE_pre h0 (pre_takeWhile l)] at h
    have := (pre_takeWhile l).ds
    rw [List.take_of_length_le (by omega)] at this
    exact ⟨this, .inl h0⟩
/-- A number's text is one. -/
theorem tE_dec (n : Nat) : tE (Lib.decDigits n) = (Lib.decDigits n).length := by
  by_cases h : n = 0
  · subst h; rw [dec_zero]; rfl
  · obtain ⟨k, hk⟩ : ∃ k, n < 10 ^ k := ⟨n, Nat.lt_pow_self (by decide)⟩
    obtain ⟨d, r, e, h48⟩ := dE_head k hk h
    rw [← dE_pos h]
    refine tE_pre (by rw [e]; simpa using h48) ⟨Nat.le_refl _, (dn_dE n).1.take _, fun b hb => by simp at hb⟩
theorem big_most : 2 ^ 65536 ≤ 10 ^ 19729 := by decide +kernel
end Go.Proofs.YtdmjfmipalifpaaGreatDoor
