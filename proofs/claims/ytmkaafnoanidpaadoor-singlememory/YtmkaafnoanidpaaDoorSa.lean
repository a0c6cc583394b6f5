/-
  Sums and the order of singles, by whole numbers.
-/
import Derived.Test.YtmkaafnoanidpaaDoorSr
namespace Go.Proofs.YtmkaafnoanidpaaDoor
open Ieee

/-- The lesser one, in units of which the greater one has 33 digits behind it. -/
def lesser (n d : Nat) : Nat := if d ≤ 33 then n * 2 ^ (33 - d) else jam (n / 2 ^ (d - 33)) (decide (n % 2 ^ (d - 33) ≠ 0))

theorem jam_even (x k : Nat) (b : Bool) : jam (x * 2 ^ 33 + k) b = x * 2 ^ 33 + jam k b := by
  unfold jam
  split
  · omega
  · rfl
theorem jam_sub (x k : Nat) (h : k + 1 ≤ x * 2 ^ 33) : jam (x * 2 ^ 33 - k - 1) true = x * 2 ^ 33 - jam k true := by
  unfold jam
  rw [if_pos rfl, if_pos rfl]
  omega
theorem log2_ge {h k : Nat} (hk : 2 ^ k ≤ h) : k ≤ h.log2 := by
  have h0 : h ≠ 0 := by have := Nat.two_pow_pos k; omega
  exact (Nat.le_log2 h0).2 hk

theorem add_same (m n d : Nat) (f : Int) (hm : 1 ≤ m) : rung single (m * 2 ^ d + n) f = rung single (m * 2 ^ 33 + lesser n d) (f + d - 33) := by
  unfold lesser
  by_cases h : d ≤ 33
  · rw [if_pos h]
    have e : m * 2 ^ 33 + n * 2 ^ (33 - d) = (m * 2 ^ d + n) * 2 ^ (33 - d) := by
      rw [Nat.add_mul, Nat.mul_assoc, ← Nat.pow_add, show d + (33 - d) = 33 by omega]
    rw [e, show f + (d : Int) - 33 = f - ((33 - d : Nat) : Int) by omega, rung_shift]
  · rw [if_neg h]
    generalize ht : d - 33 = t
    have e : m * 2 ^ d + n = 2 ^ t * (m * 2 ^ 33 + n / 2 ^ t) + n % 2 ^ t := by
      rw [Nat.mul_add, Nat.add_assoc, Nat.div_add_mod, show d = t + 33 by omega, Nat.pow_add, ← Nat.mul_assoc, ← Nat.mul_assoc, Nat.mul_comm m]
    have hg : 2 ^ 25 ≤ m * 2 ^ 33 + n / 2 ^ t := by
      generalize n / 2 ^ t = k
      omega
    rw [e, rung_jam single _ t _ _ (Nat.mod_lt _ (Nat.two_pow_pos t)) (log2_ge (k := 25) hg), jam_even]
    congr 1
    omega
theorem lesser_eq (m n d : Nat) (hm : 1 ≤ m) (hn : n < 16777216) : (m * 2 ^ 33 = lesser n d) ↔ m * 2 ^ d = n := by
  unfold lesser
  by_cases h : d ≤ 33
  · rw [if_pos h]
    have e : m * 2 ^ 33 = m * 2 ^ d * 2 ^ (33 - d) := by
      rw [Nat.mul_assoc, ← Nat.pow_add, show d + (33 - d) = 33 by omega]
    rw [e]
    exact Nat.mul_left_inj (by have := Nat.two_pow_pos (33 - d); omega)
  · rw [if_neg h]
    have hq : n / 2 ^ (d - 33) ≤ n := Nat.div_le_self _ _
    have hj : ∀ k b, jam k b ≤ k + 1 := fun k b => by unfold jam; split <;> omega
    have hj' := hj (n / 2 ^ (d - 33)) (decide (n % 2 ^ (d - 33) ≠ 0))
    have g : 1 * 2 ^ 33 ≤ m * 2 ^ d := Nat.mul_le_mul hm (Nat.pow_le_pow_right (by omega) (by omega))
    constructor
    · intro hh
      rw [← hh] at hj'
      omega
    · intro hh
      omega
theorem add_other (m n d : Nat) (f : Int) (hm : 1 ≤ m) (hn : n < 16777216) (hle : n ≤ m * 2 ^ d) : rung single (m * 2 ^ d - n) f = rung single (m * 2 ^ 33 - lesser n d) (f + d - 33) := by
  unfold lesser
  by_cases h : d ≤ 33
  · rw [if_pos h]
    have e : m * 2 ^ 33 - n * 2 ^ (33 - d) = (m * 2 ^ d - n) * 2 ^ (33 - d) := by
      rw [Nat.sub_mul, Nat.mul_assoc, ← Nat.pow_add, show d + (33 - d) = 33 by omega]
    rw [e, show f + (d : Int) - 33 = f - ((33 - d : Nat) : Int) by omega, rung_shift]
  · rw [if_neg h]
    generalize ht : d - 33 = t
    have hq : n / 2 ^ t ≤ n := Nat.div_le_self _ _
    have hr : n % 2 ^ t < 2 ^ t := Nat.mod_lt _ (Nat.two_pow_pos t)
    have hp : 2 ^ t * (m * 2 ^ 33) = m * 2 ^ d := by
      rw [show d = t + 33 by omega, Nat.pow_add, Nat.mul_left_comm]
    have hdm := Nat.div_add_mod n (2 ^ t)
    by_cases hz : n % 2 ^ t = 0
    · have e : m * 2 ^ d - n = 2 ^ t * (m * 2 ^ 33 - n / 2 ^ t) + 0 := by
        rw [Nat.mul_sub, hp]; omega
      rw [e, rung_jam single _ t 0 _ (Nat.two_pow_pos t) (log2_ge (k := 25) (by omega)), hz]
      simp only [ne_eq, not_true, decide_false, jam, Bool.false_eq_true, if_false]
      congr 1
      omega
    · have e : m * 2 ^ d - n = 2 ^ t * (m * 2 ^ 33 - n / 2 ^ t - 1) + (2 ^ t - n % 2 ^ t) := by
        have g : 2 ^ t * (n / 2 ^ t + 1) ≤ 2 ^ t * (m * 2 ^ 33) := Nat.mul_le_mul_left _ (by omega)
        rw [Nat.sub_sub, Nat.mul_sub]
        rw [Nat.mul_add] at g ⊢
        rw [hp] at g ⊢
        omega
      have hz2 : decide (2 ^ t - n % 2 ^ t ≠ 0) = true := decide_eq_true (by omega)
      have hz3 : decide (n % 2 ^ t ≠ 0) = true := decide_eq_true hz
      rw [e, rung_jam single _ t _ _ (by omega) (log2_ge (k := 25) (by omega)), hz2, hz3, jam_sub m _ (by omega)]
      congr 1
      omega

theorem signed_eq (s : Bool) (m k : Nat) : signed s m k = if s then -((m * 2 ^ k : Nat) : Int) else ((m * 2 ^ k : Nat) : Int) := by
  unfold signed
  rw [Nat.shiftLeft_eq]

/-- A sum whose first number is as great or greater, by the document's rule. -/
theorem sum_fin (s t : Bool) (m n d : Nat) (e f : Int) (he : e = f + d) (hm : 1 ≤ m) (hn0 : 1 ≤ n) (hn : n < 16777216) (hle : n ≤ m * 2 ^ d) :
    ((Datum.number s m e).sum (.number t n f)).map single.write = some (if s = t then single.word s (rung single (m * 2 ^ 33 + lesser n d) (e - 33)) else if m * 2 ^ 33 = lesser n d then 0 else single.word s (rung single (m * 2 ^ 33 - lesser n d) (e - 33))) := by
  have hb : min e f = f := by omega
  simp only [Datum.sum, Option.map_some, hb, signed_eq, show (f - f).toNat = 0 by omega, Nat.pow_zero, Nat.mul_one, show (e - f).toNat = d by omega, Format.write]
  have e33 : e - 33 = f + d - 33 := by omega
  have hs := add_same m n d f hm
  have ho := add_other m n d f hm hn hle
  rw [← e33] at hs ho
  rw [← hs, ← ho]
  congr 1
  have hz := lesser_eq m n d hm hn
  generalize m * 2 ^ d = M at *
  by_cases hst : s = t
  · subst hst
    rw [if_pos rfl, nearest_rung]
    cases s
    · simp only [Bool.false_eq_true, if_false]
      rw [if_neg (by omega), show decide (((M : Nat) : Int) + (n : Int) < 0) = false from decide_eq_false (by omega), show ((M : Int) + (n : Int)).natAbs = M + n by omega]
    · simp only [if_true]
      rw [if_neg (by omega), show decide (-((M : Nat) : Int) + -(n : Int) < 0) = true from decide_eq_true (by omega), show (-(M : Int) + -(n : Int)).natAbs = M + n by omega]
  · rw [if_neg hst, nearest_rung]
    by_cases hMn : M = n
    · rw [if_pos (hz.2 hMn)]
      subst hMn
      cases s <;> cases t <;> first | exact absurd rfl hst | skip
      · simp only [Bool.false_eq_true, if_false, if_true, Int.add_right_neg, Int.natAbs_zero, Bool.false_and, rung]
        rfl
      · simp only [Bool.false_eq_true, if_false, if_true, Int.add_left_neg, Int.natAbs_zero, Bool.and_false, rung]
        rfl
    · rw [if_neg (fun h => hMn (hz.1 h))]
      cases s <;> cases t <;> first | exact absurd rfl hst | skip
      · simp only [Bool.false_eq_true, if_false, if_true]
        rw [if_neg (by omega), show decide (((M : Nat) : Int) + -(n : Int) < 0) = false from decide_eq_false (by omega), show ((M : Int) + -(n : Int)).natAbs = M - n by omega]
      · simp only [Bool.false_eq_true, if_false, if_true]
        rw [if_neg (by omega), show decide (-((M : Nat) : Int) + (n : Int) < 0) = true from decide_eq_true (by omega), show (-(M : Int) + (n : Int)).natAbs = M - n by omega]

/-- Which of two is less. -/
def cmp3 (a b : Int) : Int := if a < b then -1 else if b < a then 1 else 0
/-- A size in units of the least power. -/
def szv (m : Nat) (e : Int) : Nat := m * 2 ^ (e + 149).toNat

theorem szv_twice (m : Nat) (e : Int) (h : -149 < e) : szv (2 * m) (e - 1) = szv m e := by
  unfold szv
  rw [show (e + 149).toNat = (e - 1 + 149).toNat + 1 by omega, Nat.pow_succ, Nat.mul_comm 2 m, Nat.mul_assoc, Nat.mul_comm 2]
theorem szv_len {m n : Nat} {e f : Int} (hn : n ≠ 0) (he : -149 ≤ e) (hf : -149 ≤ f) (h : (bitLen m : Int) + e < bitLen n + f) : szv m e < szv n f := by
  unfold szv
  have h1 := (bitLen_spec m).1
  have h2 := (bitLen_spec n).2 hn
  have h3 : 1 ≤ bitLen n := by unfold bitLen; rw [if_neg hn]; omega
  have g1 : m * 2 ^ (e + 149).toNat < 2 ^ (bitLen m) * 2 ^ (e + 149).toNat := Nat.mul_lt_mul_of_pos_right h1 (Nat.two_pow_pos _)
  have g2 : 2 ^ (bitLen n - 1) * 2 ^ (f + 149).toNat ≤ n * 2 ^ (f + 149).toNat := Nat.mul_le_mul_right _ h2
  rw [← Nat.pow_add] at g1 g2
  have g3 : 2 ^ (bitLen m + (e + 149).toNat) ≤ 2 ^ (bitLen n - 1 + (f + 149).toNat) := Nat.pow_le_pow_right (by omega) (by omega)
  omega
theorem szv_cmp (m n : Nat) (e : Int) : cmp3 (szv m e) (szv n e) = cmp3 m n := by
  have hp := Nat.two_pow_pos (e + 149).toNat
  unfold szv cmp3
  have e1 : (((m * 2 ^ (e + 149).toNat : Nat) : Int) < ((n * 2 ^ (e + 149).toNat : Nat) : Int)) ↔ (m : Int) < n := by
    rw [Int.ofNat_lt, Int.ofNat_lt]; exact Nat.mul_lt_mul_right hp
  have e2 : (((n * 2 ^ (e + 149).toNat : Nat) : Int) < ((m * 2 ^ (e + 149).toNat : Nat) : Int)) ↔ (n : Int) < m := by
    rw [Int.ofNat_lt, Int.ofNat_lt]; exact Nat.mul_lt_mul_right hp
  simp only [e1, e2]
theorem szv_zero (m n : Nat) (e f : Int) (h : m = 0 ∨ n = 0) : cmp3 (szv m e) (szv n f) = cmp3 m n := by
  have hp := Nat.two_pow_pos (e + 149).toNat
  have hq := Nat.two_pow_pos (f + 149).toNat
  unfold szv
  rcases h with rfl | rfl
  · rw [Nat.zero_mul]
    rcases Nat.eq_zero_or_pos n with rfl | h
    · rw [Nat.zero_mul]
    · have := Nat.mul_pos h hq
      unfold cmp3
      rw [if_pos (by omega), if_pos (by omega)]
  · rw [Nat.zero_mul]
    rcases Nat.eq_zero_or_pos m with rfl | h
    · rw [Nat.zero_mul]
    · have := Nat.mul_pos h hp
      unfold cmp3
      rw [if_neg (by omega), if_pos (by omega), if_neg (by omega), if_pos (by omega)]

/-- Where the greater power is the less in size, it has not all its digits. -/
theorem power_le {m n : Nat} {e f : Int} (hm : m < 16777216) (hn : -149 < f → 8388608 ≤ n) (he : -149 ≤ e) (h : szv n f ≤ szv m e) : f ≤ e := by
  apply Int.not_lt.1
  intro hlt
  have hn' := hn (by omega)
  unfold szv at h
  have g1 : 8388608 * 2 ^ (f + 149).toNat ≤ n * 2 ^ (f + 149).toNat := Nat.mul_le_mul_right _ hn'
  have g2 : 2 ^ ((e + 149).toNat + 1) ≤ 2 ^ (f + 149).toNat := Nat.pow_le_pow_right (by omega) (by omega)
  have g3 : m * 2 ^ (e + 149).toNat < 16777216 * 2 ^ (e + 149).toNat := Nat.mul_lt_mul_of_pos_right hm (Nat.two_pow_pos _)
  rw [Nat.pow_succ] at g2
  omega
theorem size_le {m n : Nat} {e f : Int} {d : Nat} (he : e = f + d) (hf : -149 ≤ f) (h : szv n f ≤ szv m e) : n ≤ m * 2 ^ d := by
  unfold szv at h
  rw [show (e + 149).toNat = d + (f + 149).toNat by omega, Nat.pow_add, ← Nat.mul_assoc] at h
  exact Nat.le_of_mul_le_mul_right h (Nat.two_pow_pos _)

/-- A single's number in units of the least power; infinite ones beyond all. -/
def vl (b : Nat) : Int := if bN b then -((if bE b = 255 then szv 1 1000 else szv (mt b) (ex b) : Nat) : Int) else ((if bE b = 255 then szv 1 1000 else szv (mt b) (ex b) : Nat) : Int)

theorem vl_fin_lt (b : Nat) : szv (mt b) (ex b) < szv 1 1000 := by
  obtain ⟨h1, h2⟩ := ex_bounds b
  have h3 := mt_lt b
  unfold szv
  have g1 : mt b * 2 ^ (ex b + 149).toNat < 2 ^ 24 * 2 ^ (ex b + 149).toNat := Nat.mul_lt_mul_of_pos_right h3 (Nat.two_pow_pos _)
  rw [← Nat.pow_add] at g1
  have hk : 24 + (ex b + 149).toNat ≤ ((1000 : Int) + 149).toNat := by omega
  rw [Nat.one_mul]
  exact Nat.lt_of_lt_of_le g1 (Nat.pow_le_pow_right (by decide) hk)

theorem compare_int (a b : Int) : compare a b = if a < b then .lt else if a = b then .eq else .gt := by
  show compareOfLessAndEq a b = _
  rfl
theorem compare_scale (a b : Int) (k : Nat) (hk : 0 < k) : compare (a * k) (b * k) = compare a b := by
  rw [compare_int, compare_int]
  have hk' : (0 : Int) < k := by omega
  have e1 : a * k < b * k ↔ a < b := Int.mul_lt_mul_right hk'
  have e2 : a * k = b * k ↔ a = b := Int.mul_eq_mul_right_iff (by omega)
  simp only [e1, e2]

theorem order_vl (a b : Nat) (ha : a < 4294967296) (hb : b < 4294967296) (na : ¬ (bE a = 255 ∧ bF a ≠ 0)) (nb : ¬ (bE b = 255 ∧ bF b ≠ 0)) : single.order a b = some (compare (vl a) (vl b)) := by
  have la := vl_fin_lt a
  have lb := vl_fin_lt b
  have hz : 0 < szv 1 1000 := by omega
  unfold Format.order vl
  by_cases ea : bE a = 255
  · have fa : bF a = 0 := by
      apply Decidable.byContradiction; intro h; exact na ⟨ea, h⟩
    rw [read_inf a ha ea fa]
    by_cases eb : bE b = 255
    · have fb : bF b = 0 := by
        apply Decidable.byContradiction; intro h; exact nb ⟨eb, h⟩
      rw [read_inf b hb eb fb]
      simp only [Datum.order, ea, eb, if_true]
      generalize szv 1 1000 = Z at *
      congr 1
      cases bN a <;> cases bN b <;> simp only [Bool.false_eq_true, if_true, if_false] <;> rw [compare_int]
      · rw [if_neg (by omega), if_pos (by omega)]; rfl
      · rw [if_neg (by omega), if_neg (by omega)]; rfl
      · rw [if_pos (by omega)]; rfl
      · rw [if_neg (by omega), if_pos (by omega)]; rfl
    · rw [read_fin b hb eb]
      simp only [Datum.order, ea, eb, if_true, if_false]
      generalize szv 1 1000 = Z at *
      generalize szv (mt b) (ex b) = Y at *
      congr 1
      rw [compare_int]
      cases bN a <;> cases bN b <;> simp only [Bool.false_eq_true, if_true, if_false]
      · rw [if_neg (by omega), if_neg (by omega)]
      · rw [if_neg (by omega), if_neg (by omega)]
      · rw [if_pos (by omega)]
      · rw [if_pos (by omega)]
  · rw [read_fin a ha ea]
    by_cases eb : bE b = 255
    · have fb : bF b = 0 := by
        apply Decidable.byContradiction; intro h; exact nb ⟨eb, h⟩
      rw [read_inf b hb eb fb]
      simp only [Datum.order, ea, eb, if_true, if_false]
      generalize szv 1 1000 = Z at *
      generalize szv (mt a) (ex a) = Y at *
      congr 1
      rw [compare_int]
      cases bN a <;> cases bN b <;> simp only [Bool.false_eq_true, if_true, if_false]
      · rw [if_pos (by omega)]
      · rw [if_neg (by omega), if_neg (by omega)]
      · rw [if_pos (by omega)]
      · rw [if_neg (by omega), if_neg (by omega)]
    · rw [read_fin b hb eb]
      simp only [Datum.order, ea, eb, if_false, signed_eq]
      congr 1
      obtain ⟨a1, a2⟩ := ex_bounds a
      obtain ⟨b1, b2⟩ := ex_bounds b
      have hmin : -149 ≤ min (ex a) (ex b) := by omega
      have hla : min (ex a) (ex b) ≤ ex a := by omega
      have hlb : min (ex a) (ex b) ≤ ex b := by omega
      generalize min (ex a) (ex b) = base at *
      have key : ∀ (s : Bool) (m : Nat) (e : Int), base ≤ e → (if s then -((szv m e : Nat) : Int) else ((szv m e : Nat) : Int)) = (if s then -((m * 2 ^ (e - base).toNat : Nat) : Int) else ((m * 2 ^ (e - base).toNat : Nat) : Int)) * ((2 ^ (base + 149).toNat : Nat) : Int) := by
        intro s m e he
        have : szv m e = m * 2 ^ (e - base).toNat * 2 ^ (base + 149).toNat := by
          unfold szv
          rw [Nat.mul_assoc, ← Nat.pow_add]
          congr 2
          omega
        rw [this]
        cases s
        · simp only [Bool.false_eq_true, if_false]; exact Int.natCast_mul _ _
        · simp only [if_true, Int.neg_mul]; rw [Int.natCast_mul (m * 2 ^ (e - base).toNat)]
      rw [key _ _ _ hla, key _ _ _ hlb, compare_scale _ _ _ (Nat.two_pow_pos _)]

end Go.Proofs.YtmkaafnoanidpaaDoor
