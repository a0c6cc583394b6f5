/-
  What the document's Alive finds: numbers.
-/
import Derived.Test.YtdponkpgokncdaaGuf
import Derived.Test.YtdponkpgokncdaaGuB
namespace Go.Proofs.Ytdponkpgokncdaa

theorem stF_at {n : Nat} {E : List Ed} {s c k : Nat} : ∀ {K : Nat}, (∀ i, i < K → okB n E i = true) → k < K → Cov (gE E k) s c → stF E K s c = (gE E k).t
  | 0, _, h, _ => absurd h (Nat.not_lt_zero _)
  | K + 1, hok, hk, hc => by
    by_cases e : k = K
    · subst e; exact stF_yes hc
    · have ih := stF_at (K := K) (fun i hi => hok i (by omega)) (by omega) hc
      by_cases h2 : Cov (gE E K) s c
      · exfalso
        have h3 := hok K (by omega)
        unfold okB at h3
        rw [Bool.and_eq_true] at h3
        obtain ⟨g1, _, _, _, g5⟩ := fitB_iff.1 h3.1
        have h4 := frB_iff.1 h3.2 (c - (gE E K).lo) (by have := h2.2.1; have := h2.2.2; omega)
        obtain ⟨l1, l2, l3⟩ := h2
        rw [show (gE E K).lo + (c - (gE E K).lo) = c by omega, show (gE E K).f.toNat = s by omega, ih] at h4
        obtain ⟨_, _, q1, _, _⟩ := fitB_iff.1 (okB_fit (hok k (by omega)))
        omega
      · rw [stF_no h2, ih]
/-- One edge is gone along. -/
def drS (n : Nat) (D : List Bool) (e : Ed) : List Bool := if (decide (0 ≤ e.f) && decide (e.f < (n : Int))) && (decide (0 ≤ e.t) && decide (e.t < (n : Int))) && D.getD e.t.toNat false then D.set e.f.toNat true else D
def drE (n : Nat) (E : List Ed) (D : List Bool) : Nat → List Bool
  | 0 => D
  | k + 1 => drS n (drE n E D k) (gE E k)
def drN (n : Nat) (E : List Ed) (A : List Bool) : Nat → List Bool
  | 0 => A
  | k + 1 => drE n E (drN n E A k) E.length
def drL (A : List Bool) (E : List Ed) : List Bool := drN A.length E A A.length
theorem drS_len (n : Nat) (D : List Bool) (e : Ed) : (drS n D e).length = D.length := by
  unfold drS
  split
  · rw [List.length_set]
  · rfl
theorem drE_len (n : Nat) (E : List Ed) (D : List Bool) : ∀ k, (drE n E D k).length = D.length
  | 0 => rfl
  | k + 1 => (drS_len n _ _).trans (drE_len n E D k)
theorem drN_len (n : Nat) (E : List Ed) (A : List Bool) : ∀ k, (drN n E A k).length = A.length
  | 0 => rfl
  | k + 1 => (drE_len n E _ _).trans (drN_len n E A k)
theorem drL_len (A : List Bool) (E : List Ed) : (drL A E).length = A.length := drN_len _ _ _ _
theorem drS_up {n : Nat} {D : List Bool} {e : Ed} {i : Nat} (h : D.getD i false = true) : (drS n D e).getD i false = true := by
  unfold drS
  split
  · rename_i hc
    by_cases e1 : e.f.toNat < D.length
    · exact (getB_set e1).2 (.inr h)
    · rw [List.set_eq_of_length_le (by omega)]
      exact h
  · exact h
theorem drE_up {n : Nat} {E : List Ed} {D : List Bool} {i : Nat} {k : Nat} : ∀ m, (drE n E D k).getD i false = true → (drE n E D (k + m)).getD i false = true
  | 0, h => h
  | m + 1, h => drS_up (drE_up m h)
theorem drS_snd {f : Nat → Nat → Int} {A D : List Bool} {e : Ed} (hD : ∀ s, D.getD s false = true → Lv f A s) (hl : D.length = A.length) (he : 0 ≤ e.f → e.f < (A.length : Int) → 0 ≤ e.t → e.t < (A.length : Int) → Lv f A e.t.toNat → Lv f A e.f.toNat) : ∀ s, (drS A.length D e).getD s false = true → Lv f A s := by
  intro s hs
  unfold drS at hs
  split at hs
  · rename_i hc
    simp only [Bool.and_eq_true, decide_eq_true_eq] at hc
    obtain ⟨⟨⟨h1, h2⟩, h3, h4⟩, h5⟩ := hc
    rcases (getB_set (by omega)).1 hs with e1 | e1
    · rw [e1]; exact he h1 h2 h3 h4 (hD _ h5)
    · exact hD s e1
  · exact hD s hs
theorem drL_lv {A : List Bool} {E : List Ed} (hb : bdF A.length E E.length = none) (hE : ∀ i, i < E.length → EdOk (gE E i)) : drL A E = lvL (stF E E.length) A := by
  have hok := bdF_none.1 hb
  refine lvL_unique (drL_len A E) (fun s => ⟨fun h => ?_, fun h => ?_⟩)
  · have step : ∀ D : List Bool, D.length = A.length → (∀ s, D.getD s false = true → Lv (stF E E.length) A s) → ∀ k, k ≤ E.length → ∀ s, (drE A.length E D k).getD s false = true → Lv (stF E E.length) A s := by
      intro D hl hD k
      induction k with
      | zero => intro _; exact hD
      | succ k ih =>
        intro hk
        refine drS_snd (ih (by omega)) ((drE_len _ _ _ _).trans hl) (fun h1 h2 h3 h4 h5 => ?_)
        have hfit := fitB_iff.1 (okB_fit (hok k (by omega)))
        have hat := stF_at (s := (gE E k).f.toNat) (c := (gE E k).lo) hok (by omega : k < E.length) ⟨by omega, Nat.le_refl _, hfit.2.2.2.2⟩
        refine Lv.step (c := (gE E k).lo) (by omega) (hE k (by omega)).lo (by rw [hat]; exact h3) (by rw [hat]; exact h5)
    have all : ∀ m s, (drN A.length E A m).getD s false = true → Lv (stF E E.length) A s := by
      intro m
      induction m with
      | zero => intro s hs; exact Lv.acc hs
      | succ m ih => exact step _ (drN_len _ _ _ _) ih E.length (Nat.le_refl _)
    exact all _ s h
  · have all : ∀ m s, (alL (stF E E.length) A m).getD s false = true → (drN A.length E A m).getD s false = true := by
      intro m
      induction m with
      | zero => intro s hs; exact hs
      | succ m ih =>
        intro s hs
        have hsl := getB_lt hs
        rw [alL_len] at hsl
        show (drE A.length E (drN A.length E A m) E.length).getD s false = true
        rcases (alL_next hsl).1 hs with e | ⟨c, hc, h0, h1⟩
        · have := drE_up (n := A.length) (E := E) (k := 0) E.length (ih s e)
          rwa [Nat.zero_add] at this
        · obtain ⟨j, hj, hcov⟩ := stF_some (E := E) (k := E.length) (s := s) (c := c) (by omega)
          have hat := stF_at hok hj hcov
          rw [hat] at h1 h0
          obtain ⟨q1, q2, q3, q4, _⟩ := fitB_iff.1 (okB_fit (hok j hj))
          have h2 := ih _ h1
          have h3 := drE_up (n := A.length) (E := E) (k := 0) j h2
          rw [Nat.zero_add] at h3
          have h4 : (drE A.length E (drN A.length E A m) (j + 1)).getD s false = true := by
            show (drS A.length (drE A.length E (drN A.length E A m) j) (gE E j)).getD s false = true
            unfold drS
            rw [decide_eq_true q1, decide_eq_true q2, decide_eq_true q3, decide_eq_true q4, h3]
            have hfs : (gE E j).f.toNat = s := by have := hcov.1; omega
            rw [hfs]
            exact (getB_set (by rw [drE_len, drN_len]; exact hsl)).2 (.inl rfl)
          have := drE_up (n := A.length) (E := E) (E.length - (j + 1)) h4
          rwa [show j + 1 + (E.length - (j + 1)) = E.length by omega] at this
    exact all _ s (lvL_iff.2 h)
/-- Do two edges share a byte? -/
def lapB (a b : Ed) : Bool := (decide (a.f = b.f) && decide (a.lo ≤ b.hi)) && decide (b.lo ≤ a.hi)
theorem lapB_iff {a b : Ed} : lapB a b = true ↔ Lap a b := by
  unfold lapB Lap
  simp only [Bool.and_eq_true, decide_eq_true_eq, and_assoc]
/-- None of the first shares a byte with it. -/
def noL (E : List Ed) (e : Ed) : Nat → Bool
  | 0 => true
  | k + 1 => noL E e k && !lapB (gE E k) e
theorem noL_iff {E : List Ed} {e : Ed} : ∀ {k : Nat}, noL E e k = true ↔ ∀ j, j < k → ¬ Lap (gE E j) e
  | 0 => ⟨fun _ _ h => absurd h (Nat.not_lt_zero _), fun _ => rfl⟩
  | k + 1 => by
    unfold noL
    rw [Bool.and_eq_true, noL_iff, Bool.not_eq_true']
    constructor
    · rintro ⟨h1, h2⟩ j hj
      rcases Nat.lt_or_ge j k with e1 | e1
      · exact h1 j e1
      · obtain rfl : j = k := by omega
        intro h3
        rw [lapB_iff.2 h3] at h2
        cases h2
    · intro h
      refine ⟨fun j hj => h j (by omega), ?_⟩
      cases h4 : lapB (gE E k) e with
      | false => rfl
      | true => exact absurd (lapB_iff.1 h4) (h k (by omega))
def reB (n : Nat) (E : List Ed) (i : Nat) : Bool := fitB n (gE E i) && noL E (gE E i) i
theorem reB_ok {n : Nat} {E : List Ed} {i : Nat} (h : bdF n E i = none) : reB n E i = okB n E i := by
  have h1 := okB_iff (bdF_none.1 h)
  unfold reB
  cases h2 : okB n E i with
  | true =>
    obtain ⟨h3, h4⟩ := h1.1 h2
    rw [h3, noL_iff.2 h4]
    rfl
  | false =>
    cases h3 : fitB n (gE E i) && noL E (gE E i) i with
    | false => rfl
    | true =>
      rw [Bool.and_eq_true, noL_iff] at h3
      rw [h1.2 h3] at h2
      cases h2
theorem noL_stop {E : List Ed} {e : Ed} {j k : Nat} (hj : j < k) (h : lapB (gE E j) e = true) : noL E e k = false := by
  cases h2 : noL E e k with
  | false => rfl
  | true => exact absurd (lapB_iff.1 h) (noL_iff.1 h2 j hj)
end Go.Proofs.Ytdponkpgokncdaa
