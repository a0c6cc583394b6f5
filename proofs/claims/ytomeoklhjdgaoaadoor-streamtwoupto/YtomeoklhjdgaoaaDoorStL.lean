/-
  Texts as rows of bytes: characters at the front, halves, the clean form; where a text may be cut.
-/
import Derived.Test.YtomeoklhjdgaoaaDoorStN
import Derived.Lib.ValidU
namespace Go.Proofs.YtomeoklhjdgaoaaDoor
open Go.Lib

/-- A byte of a text, as a number. -/
abbrev bN (l : List UInt8) (k : Nat) : Nat := (l.getD k 0).toNat
/-- How many bytes the character has that stands at the front; 0: none does. -/
def chW (l : List UInt8) : Nat := cwN l.length (bN l 0) (bN l 1) (bN l 2) (bN l 3)
/-- Is a text a half character? -/
def hfL (l : List UInt8) : Bool := decide (HfN l.length (bN l 0) (bN l 1) (bN l 2) (bN l 3))
theorem bN_lt (l : List UInt8) (k : Nat) : bN l k < 256 := UInt8.toNat_lt _
theorem bN_app {a b : List UInt8} {k : Nat} (h : k < a.length) : bN (a ++ b) k = bN a k := by
  unfold bN
  rw [List.getD_eq_getElem?_getD, List.getElem?_append_left h, ← List.getD_eq_getElem?_getD]
theorem bN_take {l : List UInt8} {n k : Nat} (h : k < n) : bN (l.take n) k = bN l k := by
  unfold bN
  rw [List.getD_eq_getElem?_getD, List.getElem?_take, if_pos h, ← List.getD_eq_getElem?_getD]
theorem okN_cong {n b0 b1 b2 b3 c1 c2 c3 : Nat} (h1 : 1 < n → c1 = b1) (h2 : 2 < n → c2 = b2) (h3 : 3 < n → c3 = b3) (h : OkN n b0 b1 b2 b3) : OkN n b0 c1 c2 c3 :=
  ⟨fun e => by rw [h1 e]; exact h.1 e, fun e => by rw [h2 e]; exact h.2.1 e, fun e => by rw [h3 e]; exact h.2.2 e⟩
theorem okN_le {n m b0 b1 b2 b3 : Nat} (hm : m ≤ n) (h : OkN n b0 b1 b2 b3) : OkN m b0 b1 b2 b3 :=
  ⟨fun e => h.1 (by omega), fun e => h.2.1 (by omega), fun e => h.2.2 (by omega)⟩
theorem chW_iff {l : List UInt8} {m : Nat} (hm : m ≠ 0) : chW l = m ↔ m = szN (bN l 0) ∧ m ≤ l.length ∧ OkN m (bN l 0) (bN l 1) (bN l 2) (bN l 3) := by
  unfold chW cwN
  constructor
  · intro h
    split at h
    · rename_i e
      subst h
      exact ⟨rfl, e.1, e.2⟩
    · exact absurd h.symm hm
  · rintro ⟨h1, h2, h3⟩
    subst h1
    rw [if_pos ⟨h2, h3⟩]
theorem chW_le (l : List UInt8) : chW l ≤ l.length ∧ chW l ≤ 4 := by
  by_cases h : chW l = 0
  · omega
  · have := (chW_iff h).1 rfl
    have h4 := szN_le (bN l 0)
    omega
theorem chW_nil : chW [] = 0 := by decide
theorem chW_ne {l : List UInt8} (h : chW l ≠ 0) : l ≠ [] := fun e => h (by rw [e]; exact chW_nil)
theorem chW_first {l : List UInt8} (h : chW l ≠ 0) : bN l 0 < 128 ∨ (194 ≤ bN l 0 ∧ bN l 0 < 245) := by
  have h1 := ((chW_iff h).1 rfl).1
  rcases sz_cls (bN l 0) with ⟨hb, hs⟩ | ⟨hb, hs⟩ | ⟨hb, hs⟩ | ⟨hb, hs⟩ | ⟨hb, hs⟩ <;> omega
theorem hfL_iff {l : List UInt8} : hfL l = true ↔ 0 < l.length ∧ l.length < szN (bN l 0) ∧ OkN l.length (bN l 0) (bN l 1) (bN l 2) (bN l 3) := decide_eq_true_iff
theorem hfL_ne {l : List UInt8} (h : hfL l = true) : l ≠ [] := fun e => by rw [e] at h; exact absurd h (by decide)
theorem hfL_len {l : List UInt8} (h : hfL l = true) : l.length ≤ 3 := by
  have := hfL_iff.1 h
  have := szN_le (bN l 0)
  omega
/-- May a text begin here, wherever it stands: with no byte that stands within a character alone. -/
def Ld (l : List UInt8) : Prop := l = [] ∨ bN l 0 < 128 ∨ 192 ≤ bN l 0
theorem hfL_ld {l : List UInt8} (h : hfL l = true) : Ld l := by
  obtain ⟨h0, h1, _⟩ := hfL_iff.1 h
  rcases sz_cls (bN l 0) with ⟨hb, hs⟩ | ⟨hb, hs⟩ | ⟨hb, hs⟩ | ⟨hb, hs⟩ | ⟨hb, hs⟩ <;> first | (exact .inr (by omega)) | omega
theorem chW_ld {l : List UInt8} (h : chW l ≠ 0) : Ld l := .inr (by have := chW_first h; omega)
theorem Ld.pre {a b : List UInt8} (h : Ld (a ++ b)) : Ld a := by
  cases a with
  | nil => exact .inl rfl
  | cons c r =>
    rcases h with h | h
    · cases h
    · exact .inr h
/-- A beginning of a half character is one. -/
theorem hfL_pre {a b : List UInt8} (h : hfL (a ++ b) = true) (ha : a ≠ []) : hfL a = true := by
  have hl := List.length_pos_iff.2 ha
  obtain ⟨h0, h1, h2⟩ := hfL_iff.1 h
  rw [List.length_append] at h0 h1 h2
  rw [bN_app hl] at h1 h2
  refine hfL_iff.2 ⟨hl, by omega, okN_cong (fun e => ?_) (fun e => ?_) (fun e => ?_) (okN_le (show a.length ≤ a.length + b.length by omega) h2)⟩
  · exact (bN_app e).symm
  · exact (bN_app e).symm
  · exact (bN_app e).symm
theorem chW_app {a : List UInt8} (b : List UInt8) (h : chW a ≠ 0) : chW (a ++ b) = chW a := by
  obtain ⟨h1, h2, h3⟩ := (chW_iff h).1 rfl
  have hl : 0 < a.length := List.length_pos_iff.2 (chW_ne h)
  refine (chW_iff h).2 ⟨by rw [bN_app hl]; exact h1, by rw [List.length_append]; omega, ?_⟩
  rw [bN_app hl]
  exact okN_cong (fun e => bN_app (by omega)) (fun e => bN_app (by omega)) (fun e => bN_app (by omega)) h3
theorem chW_take (l : List UInt8) : chW (l.take (chW l)) = chW l := by
  by_cases h : chW l = 0
  · rw [h, List.take_zero]; exact chW_nil
  · obtain ⟨h1, h2, h3⟩ := (chW_iff h).1 rfl
    refine (chW_iff h).2 ⟨by rw [bN_take (by omega)]; exact h1, by rw [List.length_take]; omega, ?_⟩
    rw [bN_take (by omega)]
    exact okN_cong (fun e => bN_take (by omega)) (fun e => bN_take (by omega)) (fun e => bN_take (by omega)) h3
/-- Where no character stands at the front, none comes to stand there: but where all that was there is a half one, or goes on within one. -/
theorem chW_app_none {a b : List UInt8} (ha : a ≠ []) (h : chW a = 0) (hb : hfL a = false ∨ Ld b) : chW (a ++ b) = 0 := by
  have hl : 0 < a.length := List.length_pos_iff.2 ha
  by_cases hm : chW (a ++ b) = 0
  · exact hm
  · obtain ⟨h1, h2, h3⟩ := (chW_iff hm).1 rfl
    generalize chW (a ++ b) = m at *
    rw [bN_app hl] at h1 h3
    exfalso
    by_cases hma : m ≤ a.length
    · refine hm ((chW_iff hm).2 ⟨h1, hma, okN_cong (fun e => ?_) (fun e => ?_) (fun e => ?_) h3⟩ ▸ h)
      · exact (bN_app (by omega)).symm
      · exact (bN_app (by omega)).symm
      · exact (bN_app (by omega)).symm
    · rcases hb with hb | hb
      · refine Bool.false_ne_true (hb.symm.trans (hfL_iff.2 ⟨hl, by omega, okN_cong (fun e => ?_) (fun e => ?_) (fun e => ?_) (okN_le (show a.length ≤ m by omega) h3)⟩))
        · exact (bN_app (by omega)).symm
        · exact (bN_app (by omega)).symm
        · exact (bN_app (by omega)).symm
      · have hbl : b ≠ [] := fun e => by rw [e, List.append_nil] at h2; omega
        have hb0 : bN (a ++ b) a.length = bN b 0 := by
          unfold bN
          rw [List.getD_eq_getElem?_getD, List.getElem?_append_right (Nat.le_refl _), Nat.sub_self, ← List.getD_eq_getElem?_getD]
        have hb1 : bN b 0 < 128 ∨ 192 ≤ bN b 0 := by
          rcases hb with hb | hb
          · exact absurd hb hbl
          · exact hb
        have h4 : m ≤ 4 := h1 ▸ szN_le _
        obtain h5 | h5 | h5 : a.length = 1 ∨ a.length = 2 ∨ a.length = 3 := by omega
        · have := laN_bd (h3.1 (by omega)); rw [h5] at hb0; omega
        · have := laN_bd (h3.2.1 (by omega)); rw [h5] at hb0; omega
        · have := laN_bd (h3.2.2 (by omega)); rw [h5] at hb0; omega

/-! the clean form -/
abbrev sgn : List UInt8 := [239, 191, 189]
def clG : Nat → List UInt8 → List UInt8
  | 0, _ => []
  | n + 1, l => if l = [] then [] else if chW l = 0 then sgn ++ clG n (l.drop 1) else l.take (chW l) ++ clG n (l.drop (chW l))
def clL (l : List UInt8) : List UInt8 := clG l.length l
theorem clG_fuel : ∀ (n m : Nat) (l : List UInt8), l.length ≤ n → l.length ≤ m → clG n l = clG m l := by
  intro n
  induction n with
  | zero =>
    intro m l h _
    have : l = [] := List.length_eq_zero_iff.1 (by omega)
    subst this
    cases m with
    | zero => rfl
    | succ m => simp [clG]
  | succ n ih =>
    intro m l h h'
    cases m with
    | zero =>
      have : l = [] := List.length_eq_zero_iff.1 (by omega)
      subst this
      simp [clG]
    | succ m =>
      unfold clG
      split
      · rfl
      · rename_i hn
        have hl := List.length_pos_iff.2 hn
        split
        · rw [ih m (l.drop 1) (by rw [List.length_drop]; omega) (by rw [List.length_drop]; omega)]
        · rw [ih m (l.drop (chW l)) (by rw [List.length_drop]; omega) (by rw [List.length_drop]; omega)]
theorem clL_nil : clL [] = [] := rfl
theorem clL_bad {l : List UInt8} (hn : l ≠ []) (h : chW l = 0) : clL l = sgn ++ clL (l.drop 1) := by
  have hl := List.length_pos_iff.2 hn
  obtain ⟨k, hk⟩ : ∃ k, l.length = k + 1 := ⟨l.length - 1, by omega⟩
  unfold clL
  conv => lhs; rw [hk, clG]
  rw [if_neg hn, if_pos h, clG_fuel k (l.drop 1).length (l.drop 1) (by rw [List.length_drop]; omega) (Nat.le_refl _)]
theorem clL_char {l : List UInt8} (h : chW l ≠ 0) : clL l = l.take (chW l) ++ clL (l.drop (chW l)) := by
  have hl := List.length_pos_iff.2 (chW_ne h)
  obtain ⟨k, hk⟩ : ∃ k, l.length = k + 1 := ⟨l.length - 1, by omega⟩
  unfold clL
  conv => lhs; rw [hk, clG]
  rw [if_neg (chW_ne h), if_neg h, clG_fuel k (l.drop (chW l)).length (l.drop (chW l)) (by rw [List.length_drop]; omega) (Nat.le_refl _)]
/-- Has no end that is a half character. -/
def NoHf (l : List UInt8) : Prop := ∀ k, k < l.length → hfL (l.drop k) = false
theorem NoHf.drop {l : List UInt8} (h : NoHf l) (n : Nat) : NoHf (l.drop n) := fun k hk => by
  rw [List.drop_drop]
  exact h _ (by rw [List.length_drop] at hk; omega)
theorem clL_app : ∀ (n : Nat) (a b : List UInt8), a.length ≤ n → NoHf a ∨ Ld b → clL (a ++ b) = clL a ++ clL b := by
  intro n
  induction n with
  | zero =>
    intro a b h _
    have : a = [] := List.length_eq_zero_iff.1 (by omega)
    subst this
    rfl
  | succ n ih =>
    intro a b h hb
    by_cases ha : a = []
    · subst ha; rfl
    · have hl := List.length_pos_iff.2 ha
      by_cases hc : chW a = 0
      · have hc2 : chW (a ++ b) = 0 := chW_app_none ha hc (hb.imp (fun e => by have := e 0 hl; rwa [List.drop_zero] at this) id)
        rw [clL_bad (fun e => ha (List.append_eq_nil_iff.1 e).1) hc2, clL_bad ha hc, List.drop_append_of_le_length (by omega), ih _ _ (by rw [List.length_drop]; omega) (hb.imp (fun e => e.drop 1) id), List.append_assoc]
      · have hc2 := chW_app b hc
        have hle := chW_le a
        rw [clL_char (by rw [hc2]; exact hc), clL_char hc, hc2, List.drop_append_of_le_length hle.1, List.take_append_of_le_length hle.1, ih _ _ (by rw [List.length_drop]; omega) (hb.imp (fun e => e.drop _) id), List.append_assoc]
theorem clL_join {a b : List UInt8} (h : NoHf a ∨ Ld b) : clL (a ++ b) = clL a ++ clL b := clL_app a.length a b (Nat.le_refl _) h
theorem clL_len : ∀ (n : Nat) (l : List UInt8), l.length ≤ n → (clL l).length ≤ 3 * l.length ∧ l.length ≤ (clL l).length := by
  intro n
  induction n with
  | zero =>
    intro l h
    have : l = [] := List.length_eq_zero_iff.1 (by omega)
    subst this
    exact ⟨Nat.le_refl _, Nat.le_refl _⟩
  | succ n ih =>
    intro l h
    by_cases hl : l = []
    · subst hl; exact ⟨Nat.le_refl _, Nat.le_refl _⟩
    · have h0 := List.length_pos_iff.2 hl
      by_cases hc : chW l = 0
      · rw [clL_bad hl hc, List.length_append]
        have := ih (l.drop 1) (by rw [List.length_drop]; omega)
        rw [List.length_drop] at this
        simp only [List.length_cons, List.length_nil]
        omega
      · rw [clL_char hc, List.length_append]
        have hle := chW_le l
        have := ih (l.drop (chW l)) (by rw [List.length_drop]; omega)
        rw [List.length_drop] at this
        rw [List.length_take]
        omega
theorem clL_le (l : List UInt8) : (clL l).length ≤ 3 * l.length := (clL_len _ l (Nat.le_refl _)).1
theorem chW_sgn (b : List UInt8) : chW (sgn ++ b) = 3 := (chW_app b (by decide)).trans (by decide)
theorem clL_idem' : ∀ (n : Nat) (l : List UInt8), l.length ≤ n → clL (clL l) = clL l := by
  intro n
  induction n with
  | zero =>
    intro l h
    have : l = [] := List.length_eq_zero_iff.1 (by omega)
    subst this
    rfl
  | succ n ih =>
    intro l h
    by_cases hl : l = []
    · subst hl; rfl
    · have h0 := List.length_pos_iff.2 hl
      by_cases hc : chW l = 0
      · rw [clL_bad hl hc]
        have hs := chW_sgn (clL (l.drop 1))
        rw [clL_char (by rw [hs]; decide), hs]
        show sgn ++ clL (clL (l.drop 1)) = _
        rw [ih _ (by rw [List.length_drop]; omega)]
      · rw [clL_char hc]
        have hle := chW_le l
        have ht : chW (l.take (chW l) ++ clL (l.drop (chW l))) = chW l := by rw [chW_app _ (by rw [chW_take]; exact hc), chW_take]
        have hn : (l.take (chW l)).length = chW l := by rw [List.length_take]; omega
        rw [clL_char (by rw [ht]; exact hc), ht]
        conv => lhs; rw [← hn]
        rw [hn, List.take_append_of_le_length (by omega), List.take_of_length_le (by omega), List.drop_append_of_le_length (by omega), List.drop_of_length_le (by omega), List.nil_append, ih _ (by rw [List.length_drop]; omega)]
theorem clL_idem (l : List UInt8) : clL (clL l) = clL l := clL_idem' _ l (Nat.le_refl _)
/-- Its own clean form: whatever stands at the front is a character, and so on. -/
theorem clL_own {l : List UInt8} (hn : l ≠ []) : clL l = l ↔ chW l ≠ 0 ∧ clL (l.drop (chW l)) = l.drop (chW l) := by
  constructor
  · intro h
    have hc : chW l ≠ 0 := fun hc => by
      rw [clL_bad hn hc] at h
      have := chW_sgn (clL (l.drop 1))
      rw [h, hc] at this
      cases this
    refine ⟨hc, ?_⟩
    rw [clL_char hc] at h
    have h2 : l.take (chW l) ++ clL (l.drop (chW l)) = l.take (chW l) ++ l.drop (chW l) := h.trans (List.take_append_drop _ _).symm
    exact List.append_cancel_left h2
  · rintro ⟨hc, h⟩
    rw [clL_char hc, h, List.take_append_drop]
end Go.Proofs.YtomeoklhjdgaoaaDoor
