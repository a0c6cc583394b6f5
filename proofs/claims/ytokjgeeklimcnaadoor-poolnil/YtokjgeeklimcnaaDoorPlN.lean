/-
  The numbers of a pool: bits that mark the places that were given back, the least of them, and what a pool is told as: a list of places, each free or with what it has.
-/
import Derived.Lib.TrailingZeros
namespace Go.Proofs.YtokjgeeklimcnaaDoor

/-- Is a place marked? -/
def bt (ws : List Nat) (i : Nat) : Bool := (ws.getD (i / 64) 0).testBit (i % 64)

theorem low_bit {x k m : Nat} (h : x = 2 ^ k * (2 * m + 1)) (j : Nat) : x.testBit j = (if j < k then false else (2 * m + 1).testBit (j - k)) ∧ (x &&& (x - 1)).testBit j = (x.testBit j && !(j == k)) := by
  have h1 : x.testBit j = (if j < k then false else (2 * m + 1).testBit (j - k)) := by
    have := Nat.testBit_two_pow_mul_add (2 * m + 1) (b := 0) (i := k) (Nat.two_pow_pos k) j
    rw [Nat.add_zero, ← h, Nat.zero_testBit] at this
    exact this
  have hp := Nat.two_pow_pos k
  have e : x - 1 = 2 ^ k * (2 * m) + (2 ^ k - 1) := by
    rw [h, Nat.mul_add]
    omega
  have h2 : (x - 1).testBit j = (if j < k then (2 ^ k - 1).testBit j else (2 * m).testBit (j - k)) := by
    rw [e]
    exact Nat.testBit_two_pow_mul_add (2 * m) (by omega) j
  refine ⟨h1, ?_⟩
  rw [Nat.testBit_and, h2, h1]
  by_cases hj : j < k
  · simp [hj]
  · simp only [hj, if_false]
    obtain ⟨d, rfl⟩ := Nat.exists_eq_add_of_le (Nat.le_of_not_lt hj)
    rw [Nat.add_sub_cancel_left]
    cases d with
    | zero => simp
    | succ d =>
      rw [Nat.testBit_succ, Nat.testBit_succ]
      have e1 : (2 * m + 1) / 2 = m := by omega
      have e2 : 2 * m / 2 = m := by omega
      have e3 : (k + (d + 1) == k) = false := by simp
      rw [e1, e2, e3]
      simp

theorem getD_set (ws : List Nat) (q v i : Nat) : (ws.set q v).getD i 0 = if i = q ∧ q < ws.length then v else ws.getD i 0 := by
  simp only [List.getD_eq_getElem?_getD, List.getElem?_set]
  by_cases h : q = i
  · subst h
    by_cases h2 : q < ws.length
    · simp [h2]
    · simp [h2]
  · have h' : ¬ i = q := fun e => h e.symm
    simp [h, h']

theorem bt_set (ws : List Nat) (q v i : Nat) (hq : q < ws.length) : bt (ws.set q v) i = if i / 64 = q then v.testBit (i % 64) else bt ws i := by
  unfold bt
  rw [getD_set]
  by_cases h : i / 64 = q
  · simp [h, hq]
  · simp [h]

theorem getD_zeros (ws : List Nat) (k i : Nat) : (ws ++ List.replicate k 0).getD i 0 = ws.getD i 0 := by
  simp only [List.getD_eq_getElem?_getD]
  by_cases h : i < ws.length
  · rw [List.getElem?_append_left h]
  · rw [List.getElem?_append_right (by omega), List.getElem?_replicate, List.getElem?_eq_none (l := ws) (by omega)]
    split <;> rfl
theorem bt_zeros (ws : List Nat) (k i : Nat) : bt (ws ++ List.replicate k 0) i = bt ws i := by unfold bt; rw [getD_zeros]

theorem count_same (p q : Nat → Bool) (n : Nat) (h : ∀ i, i < n → q i = p i) : (List.range n).countP q = (List.range n).countP p :=
  List.countP_congr fun x hx => by rw [h x (List.mem_range.1 hx)]

theorem count_flip (p q : Nat → Bool) (a n : Nat) (ha : a < n) (hp : p a = false) (hq : q a = true) (h : ∀ i, i ≠ a → q i = p i) : (List.range n).countP q = (List.range n).countP p + 1 := by
  induction n with
  | zero => omega
  | succ n ih =>
    rw [List.range_succ, List.countP_append, List.countP_append]
    by_cases e : a = n
    · subst e
      rw [count_same p q a (fun i hi => h i (by omega))]
      simp [hp, hq]
    · have := ih (by omega)
      simp only [List.countP_singleton, h n (fun e' => e e'.symm)]
      omega

theorem count_not (p : Nat → Bool) (n : Nat) : (List.range n).countP p + (List.range n).countP (fun i => !p i) = n := by
  induction n with
  | zero => rfl
  | succ n ih =>
    rw [List.range_succ, List.countP_append, List.countP_append]
    simp only [List.countP_singleton]
    cases p n <;> simp <;> omega

/-- What holds of a pool's marks: n places were taken ever, c of them were given back. -/
structure Inv (n : Nat) (ws : List Nat) (c f : Nat) : Prop where
  lt : ∀ x ∈ ws, x < 18446744073709551616
  below : ∀ i, bt ws i = true → i < n
  count : c = (List.range n).countP (bt ws)
  first : ∀ k, k < f → ws.getD k 0 = 0

theorem Inv.cle {n : Nat} {ws : List Nat} {c f : Nat} (h : Inv n ws c f) : c ≤ n := by
  have h1 := count_not (bt ws) n
  have h2 := h.count
  omega

theorem Inv.zero {n : Nat} {ws : List Nat} {f : Nat} (h : Inv n ws 0 f) (i : Nat) : bt ws i = false := by
  cases e : bt ws i with
  | false => rfl
  | true =>
    have hi := h.below i e
    have h0 : (List.range n).countP (bt ws) = 0 := h.count.symm
    rw [List.countP_eq_zero] at h0
    exact absurd e (h0 i (List.mem_range.2 hi))

theorem getD_lt {ws : List Nat} (h : ∀ x ∈ ws, x < 18446744073709551616) (k : Nat) : ws.getD k 0 < 18446744073709551616 := by
  rw [List.getD_eq_getElem?_getD]
  by_cases hk : k < ws.length
  · rw [List.getElem?_eq_getElem hk]
    exact h _ (List.getElem_mem hk)
  · rw [List.getElem?_eq_none (by omega)]
    simp

theorem testBit_ge {x : Nat} (h : x < 18446744073709551616) {j : Nat} (hj : 64 ≤ j) : x.testBit j = false :=
  Nat.testBit_lt_two_pow (Nat.lt_of_lt_of_le h (Nat.pow_le_pow_right (n := 2) (i := 64) (by decide) hj))

/-- A place is given back. -/
theorem Inv.put {n : Nat} {ws : List Nat} {c f : Nat} (h : Inv n ws c f) (p k : Nat) (hp : p < n) (hb : bt ws p = false) (hk : p / 64 < ws.length + k) :
    let us := (ws ++ List.replicate k 0).set (p / 64) ((ws ++ List.replicate k 0).getD (p / 64) 0 ||| 2 ^ (p % 64))
    Inv n us (c + 1) (min f (p / 64)) ∧ ∀ i, bt us i = (bt ws i || i == p) := by
  intro us
  have hl : p / 64 < (ws ++ List.replicate k 0).length := by simpa using hk
  have hlt0 : ∀ x ∈ ws ++ List.replicate k 0, x < 18446744073709551616 := by
    intro x hx
    rcases List.mem_append.1 hx with e | e
    · exact h.lt x e
    · rw [(List.mem_replicate.1 e).2]; omega
  have hbt : ∀ i, bt us i = (bt ws i || i == p) := by
    intro i
    show bt ((ws ++ List.replicate k 0).set _ _) i = _
    rw [bt_set _ _ _ _ hl]
    by_cases e : i / 64 = p / 64
    · simp only [e, if_true]
      rw [Nat.testBit_or, Nat.testBit_two_pow, getD_zeros]
      have e1 : (ws.getD (p / 64) 0).testBit (i % 64) = bt ws i := by unfold bt; rw [e]
      rw [e1]
      congr 1
      by_cases e2 : i = p
      · subst e2; simp
      · have : p % 64 ≠ i % 64 := by omega
        simp [e2, this]
    · simp only [e, if_false]
      rw [bt_zeros]
      have : (i == p) = false := by
        simp only [beq_eq_false_iff_ne, ne_eq]
        intro e'; subst e'; exact e rfl
      simp [this]
  refine ⟨⟨?_, ?_, ?_, ?_⟩, hbt⟩
  · intro x hx
    rcases List.mem_or_eq_of_mem_set hx with e | e
    · exact hlt0 x e
    · subst e
      have h1 := getD_lt hlt0 (p / 64)
      exact Nat.or_lt_two_pow (n := 64) h1 (Nat.pow_lt_pow_right (by omega) (by omega))
  · intro i hi
    rw [hbt] at hi
    simp only [Bool.or_eq_true, beq_iff_eq] at hi
    rcases hi with e | e
    · exact h.below i e
    · omega
  · rw [h.count]
    refine (count_flip _ _ p n hp hb ?_ ?_).symm
    · rw [hbt]; simp
    · intro i hi
      rw [hbt]
      simp [hi]
  · intro q hq
    show ((ws ++ List.replicate k 0).set _ _).getD q 0 = 0
    rw [getD_set]
    have h1 : ¬ (q = p / 64 ∧ p / 64 < (ws ++ List.replicate k 0).length) := by omega
    rw [if_neg h1, getD_zeros]
    exact h.first q (by omega)

/-- The least marked place is taken: it lies in the first word that is not 0. -/
theorem Inv.least {n : Nat} {ws : List Nat} {c f : Nat} (h : Inv n ws c f) (q : Nat) (hq : ∀ k, k < q → ws.getD k 0 = 0) (hq1 : q < ws.length) (hx : ws.getD q 0 ≠ 0) :
    let x := ws.getD q 0
    let r := q * 64 + Lib.ctz 64 x
    bt ws r = true ∧ (∀ j, j < r → bt ws j = false) ∧ r < n ∧ 0 < c ∧ Inv n (ws.set q (x &&& (x - 1))) (c - 1) q ∧ (∀ i, bt (ws.set q (x &&& (x - 1))) i = (bt ws i && !(i == r))) ∧ Lib.ctz 64 x < 64 := by
  intro x r
  have hx0 : x ≠ 0 := hx
  have hxl : x < 18446744073709551616 := getD_lt h.lt q
  obtain ⟨m, hm, hk⟩ := Lib.ctzFrom_spec 64 x (by omega) hxl
  have hctz : Lib.ctz 64 x = Lib.ctzFrom 64 x := by unfold Lib.ctz; rw [if_neg hx0]
  generalize hK : Lib.ctzFrom 64 x = K at *
  have hr : r = q * 64 + K := by show q * 64 + Lib.ctz 64 x = _; rw [hctz]
  have hr1 : r / 64 = q := by omega
  have hr2 : r % 64 = K := by omega
  have h1 : bt ws r = true := by
    unfold bt
    rw [hr1, hr2]
    have := (low_bit hm K).1
    rw [if_neg (Nat.lt_irrefl K), Nat.sub_self] at this
    exact this.trans (by simp)
  have h2 : ∀ j, j < r → bt ws j = false := by
    intro j hj
    unfold bt
    by_cases e : j / 64 = q
    · rw [e]
      have := (low_bit hm (j % 64)).1
      rw [if_pos (by omega)] at this
      exact this
    · rw [hq (j / 64) (by omega)]
      exact Nat.zero_testBit _
  have hb : ∀ i, bt (ws.set q (x &&& (x - 1))) i = (bt ws i && !(i == r)) := by
    intro i
    rw [bt_set _ _ _ _ hq1]
    by_cases e : i / 64 = q
    · simp only [e, if_true]
      rw [(low_bit hm (i % 64)).2]
      have e1 : bt ws i = x.testBit (i % 64) := by unfold bt; rw [e]
      rw [e1]
      have e3 : (i % 64 == K) = (i == r) := by
        rw [Bool.eq_iff_iff, beq_iff_eq, beq_iff_eq]
        omega
      rw [e3]
    · simp only [e, if_false]
      have : (i == r) = false := by
        simp only [beq_eq_false_iff_ne, ne_eq]
        intro e'; subst e'; exact e hr1
      simp [this]
  have hrn : r < n := h.below r h1
  have hc := count_flip (bt (ws.set q (x &&& (x - 1)))) (bt ws) r n hrn (by rw [hb]; simp) h1 (fun i hi => by rw [hb]; simp [hi])
  have hcc := h.count
  refine ⟨h1, h2, hrn, by omega, ⟨?_, ?_, by omega, ?_⟩, hb, by omega⟩
  · intro y hy
    rcases List.mem_or_eq_of_mem_set hy with e | e
    · exact h.lt y e
    · subst e
      exact Nat.lt_of_le_of_lt Nat.and_le_left hxl
  · intro i hi
    rw [hb] at hi
    simp only [Bool.and_eq_true] at hi
    exact h.below i hi.1
  · intro k hk'
    rw [getD_set]
    have : ¬ (k = q ∧ q < ws.length) := by omega
    rw [if_neg this]
    exact hq k hk'

/-- Where places are marked there is a word that is not 0. -/
theorem Inv.some_word {n : Nat} {ws : List Nat} {c f : Nat} (h : Inv n ws c f) (hc : 0 < c) : ∃ q, q < ws.length ∧ ws.getD q 0 ≠ 0 := by
  have hp : 0 < (List.range n).countP (bt ws) := by have := h.count; omega
  obtain ⟨i, _, hi⟩ := List.countP_pos_iff.1 hp
  refine ⟨i / 64, ?_, ?_⟩
  · apply Classical.byContradiction
    intro hn
    unfold bt at hi
    rw [List.getD_eq_getElem?_getD, List.getElem?_eq_none (by omega)] at hi
    simp at hi
  · intro e
    unfold bt at hi
    rw [e] at hi
    simp at hi

/-- What a pool is told as. -/
def pl (N : Nat) (xs : List Int) (ws : List Nat) : List (Option Int) := (List.range N).map fun i => if i < xs.length && !bt ws i then some (xs.getD i 0) else none
theorem pl_length (N : Nat) (xs : List Int) (ws : List Nat) : (pl N xs ws).length = N := by simp [pl]
theorem pl_get (N : Nat) (xs : List Int) (ws : List Nat) (i : Nat) (h : i < (pl N xs ws).length) : (pl N xs ws)[i] = if i < xs.length && !bt ws i then some (xs.getD i 0) else none := by simp [pl]

/-- How many are taken. -/
def used (l : List (Option Int)) : Nat := l.countP Option.isSome
/-- The least free place, or how many there are. -/
def fr (l : List (Option Int)) : Nat := l.findIdx Option.isNone
/-- What a place has. -/
def gt (l : List (Option Int)) (i : Int) : Option Int := if 0 ≤ i ∧ i < (l.length : Int) then l.getD i.toNat none else none

theorem used_le (l : List (Option Int)) : used l ≤ l.length := List.countP_le_length
theorem used_pl {N n c f : Nat} {xs : List Int} {ws : List Nat} (h : Inv n ws c f) (hn : xs.length = n) (hN : n ≤ N) : used (pl N xs ws) + c = n := by
  subst hn
  unfold used pl
  rw [List.countP_map]
  have e1 : (List.range N).countP (Option.isSome ∘ fun i => if (decide (i < xs.length) && !bt ws i) = true then some (xs.getD i 0) else none) = (List.range N).countP (fun i => decide (i < xs.length) && !bt ws i) := by
    apply List.countP_congr
    intro i _
    simp only [Function.comp]
    split <;> simp [*]
  rw [e1]
  obtain ⟨d, rfl⟩ := Nat.exists_eq_add_of_le hN
  rw [List.range_add, List.countP_append, List.countP_map]
  have e2 : (List.range d).countP ((fun i => decide (i < xs.length) && !bt ws i) ∘ fun x => xs.length + x) = 0 := by
    rw [List.countP_eq_zero]
    intro x _
    have : ¬ xs.length + x < xs.length := by omega
    simp [this]
  have e3 : (List.range xs.length).countP (fun i => decide (i < xs.length) && !bt ws i) = (List.range xs.length).countP (fun i => !bt ws i) := by
    apply List.countP_congr
    intro i hi
    simp [List.mem_range.1 hi]
  rw [e2, e3]
  have := count_not (bt ws) xs.length
  have := h.count
  omega

theorem fr_le (l : List (Option Int)) : fr l ≤ l.length := List.findIdx_le_length
theorem fr_eq {l : List (Option Int)} {i : Nat} (h : i < l.length) (h1 : l[i] = none) (h2 : ∀ j (hj : j < i), (l[j]).isSome = true) : fr l = i := by
  unfold fr
  rw [List.findIdx_eq h]
  refine ⟨by simp [h1], fun j hj => ?_⟩
  have := h2 j hj
  cases hx : l[j] with
  | none => rw [hx] at this; simp at this
  | some v => rfl
theorem fr_full {l : List (Option Int)} (h : used l = l.length) : fr l = l.length := by
  unfold fr
  rw [List.findIdx_eq_length]
  unfold used at h
  rw [List.countP_eq_length] at h
  intro x hx
  have := h x hx
  cases x with
  | none => simp at this
  | some v => rfl
theorem fr_lt {l : List (Option Int)} (h : used l < l.length) : fr l < l.length := by
  apply Classical.byContradiction
  intro hn
  have e : fr l = l.length := by have := fr_le l; omega
  unfold fr at e
  rw [List.findIdx_eq_length] at e
  have : used l = l.length := by
    unfold used
    rw [List.countP_eq_length]
    intro x hx
    have := e x hx
    cases x <;> simp_all
  omega

theorem gt_pl {N : Nat} {xs : List Int} {ws : List Nat} (hN : xs.length ≤ N) (i : Int) : gt (pl N xs ws) i = if 0 ≤ i ∧ i < (xs.length : Int) ∧ bt ws i.toNat = false then some (xs.getD i.toNat 0) else none := by
  unfold gt
  rw [pl_length]
  by_cases h0 : 0 ≤ i
  · obtain ⟨k, rfl⟩ := Int.eq_ofNat_of_zero_le h0
    simp only [Int.toNat_natCast]
    by_cases h1 : k < N
    · rw [if_pos ⟨h0, by omega⟩, List.getD_eq_getElem?_getD, List.getElem?_eq_getElem (by rw [pl_length]; exact h1), Option.getD_some, pl_get]
      by_cases h2 : k < xs.length
      · cases hb : bt ws k <;> simp [h2]
      · have : ¬ (k : Int) < (xs.length : Int) := by omega
        simp [h2]
    · rw [if_neg (by omega), if_neg (by omega)]
  · rw [if_neg (fun h => h0 h.1), if_neg (fun h => h0 h.1)]

theorem pl_ext {N : Nat} {xs ys : List Int} {ws us : List Nat} {r : Nat} {o : Option Int} (_hr : r < N) (h1 : (if r < ys.length && !bt us r then some (ys.getD r 0) else none) = o)
    (h2 : ∀ i, i < N → i ≠ r → (if i < ys.length && !bt us i then some (ys.getD i 0) else none) = (if i < xs.length && !bt ws i then some (xs.getD i 0) else none)) : pl N ys us = (pl N xs ws).set r o := by
  apply List.ext_getElem
  · simp [pl_length]
  · intro i hi hi'
    rw [pl_length] at hi
    rw [pl_get, List.getElem_set]
    by_cases e : r = i
    · subst e; rw [if_pos rfl]; exact h1
    · rw [if_neg e, pl_get]
      exact h2 i hi (fun e' => e e'.symm)

theorem xset (xs : List Int) (r i : Nat) (v : Int) (hr : r < xs.length) : (xs.set r v).getD i 0 = if i = r then v else xs.getD i 0 := by
  simp only [List.getD_eq_getElem?_getD, List.getElem?_set]
  by_cases h : r = i
  · subst h; simp [hr]
  · have h' : ¬ i = r := fun e => h e.symm
    simp [h, h']

/-- Take, a place that was given back. -/
theorem pl_back {N n c f : Nat} {xs : List Int} {ws us : List Nat} {r : Nat} (v : Int) (h : Inv n ws c f) (hn : xs.length = n) (hN : n ≤ N) (h1 : bt ws r = true) (h2 : ∀ j, j < r → bt ws j = false) (hu : ∀ i, bt us i = (bt ws i && !(i == r))) :
    fr (pl N xs ws) = r ∧ pl N (xs.set r v) us = (pl N xs ws).set r (some v) := by
  have hr := h.below r h1
  refine ⟨fr_eq (by rw [pl_length]; omega) (by rw [pl_get]; simp [h1]) (fun j hj => by rw [pl_get]; have := h2 j hj; have h3 : j < xs.length := (by omega); simp [this, h3]), ?_⟩
  apply pl_ext (by omega)
  · rw [xset _ _ _ _ (by omega), hu, List.length_set]
    have : r < xs.length := by omega
    simp [this]
  · intro i _ hi
    rw [xset _ _ _ _ (by omega), hu, List.length_set, if_neg hi]
    have : (i == r) = false := by simp [hi]
    simp [this]

/-- Take, a place that was never taken. -/
theorem pl_new {N n f : Nat} {xs : List Int} {ws : List Nat} (v : Int) (h : Inv n ws 0 f) (hn : xs.length = n) (hN : n < N) :
    fr (pl N xs ws) = n ∧ pl N (xs ++ [v]) ws = (pl N xs ws).set n (some v) := by
  have hz := h.zero
  refine ⟨fr_eq (by rw [pl_length]; omega) (by rw [pl_get]; simp [hn]) (fun j hj => by rw [pl_get]; have := hz j; have h3 : j < xs.length := (by omega); simp [this, h3]), ?_⟩
  subst hn
  apply pl_ext hN
  · simp [hz]
  · intro i _ hi
    rw [hz]
    simp only [List.length_append, List.length_singleton, List.getD_eq_getElem?_getD]
    by_cases hl : i < xs.length
    · have : i < xs.length + 1 := by omega
      simp [hl, this]
    · have : ¬ i < xs.length + 1 := by omega
      simp [hl, this]
theorem Inv.more {n : Nat} {ws : List Nat} {f : Nat} (h : Inv n ws 0 f) : Inv (n + 1) ws 0 f :=
  ⟨h.lt, fun i hi => by have := h.below i hi; omega, by
    have hz := h.zero
    symm
    rw [List.countP_eq_zero]
    intro x _
    simp [hz x], h.first⟩

/-- Give. -/
theorem pl_give {N n : Nat} {xs : List Int} {ws us : List Nat} {p : Nat} (hn : xs.length = n) (hN : n ≤ N) (hp : p < n) (hu : ∀ i, bt us i = (bt ws i || i == p)) : pl N (xs.set p 0) us = (pl N xs ws).set p none := by
  apply pl_ext (by omega)
  · rw [hu]; simp
  · intro i _ hi
    rw [xset _ _ _ _ (by omega), hu, List.length_set, if_neg hi]
    have : (i == p) = false := by simp [hi]
    simp [this]
/-- Set. -/
theorem pl_set {N n : Nat} {xs : List Int} {ws : List Nat} {p : Nat} (v : Int) (hn : xs.length = n) (hN : n ≤ N) (hp : p < n) (hb : bt ws p = false) : pl N (xs.set p v) ws = (pl N xs ws).set p (some v) := by
  apply pl_ext (by omega)
  · rw [xset _ _ _ _ (by omega), List.length_set]
    have : p < xs.length := by omega
    simp [this, hb]
  · intro i _ hi
    rw [xset _ _ _ _ (by omega), List.length_set, if_neg hi]

theorem pl_none (N : Nat) : pl N [] [] = List.replicate N none := by
  apply List.ext_getElem
  · simp [pl_length]
  · intro i hi hi'
    rw [pl_get]
    simp
theorem Inv.nothing : Inv 0 [] 0 0 := ⟨by simp, by simp [bt], rfl, by simp⟩
end Go.Proofs.YtokjgeeklimcnaaDoor
