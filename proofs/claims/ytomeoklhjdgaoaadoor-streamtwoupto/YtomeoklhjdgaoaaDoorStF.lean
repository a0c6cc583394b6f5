/-
  Stop texts: where a text ends, what is held back of it, and that what is held back is enough to go on from.
-/
import Derived.Test.YtomeoklhjdgaoaaDoorStD
import Derived.Lib.Index
namespace Go.Proofs.YtomeoklhjdgaoaaDoor
open Go.Lib

abbrev tX (T : List (List UInt8)) (i : Nat) : List UInt8 := T.getD i []
/-- Of t the first n bytes end with x. -/
abbrev En (t x : List UInt8) (n : Nat) : Prop := x.length ≤ n ∧ (t.drop (n - x.length)).take x.length = x

theorem En.room {t x : List UInt8} {n : Nat} (h : En t x n) (hx : x ≠ []) : n ≤ t.length := by
  have h0 := List.length_pos_iff.2 hx
  have := congrArg List.length h.2
  rw [List.length_take, List.length_drop] at this
  have := h.1
  omega
theorem en_take {t x : List UInt8} {n e : Nat} (h : n ≤ e) : En (t.take e) x n ↔ En t x n := by
  unfold En
  refine and_congr_right fun hn => ?_
  rw [List.drop_take, List.take_take, Nat.min_eq_left (by omega)]
theorem en_left {a b x : List UInt8} {n : Nat} (h : n ≤ a.length) : En (a ++ b) x n ↔ En a x n := by
  rw [← en_take (t := a ++ b) (e := a.length) h, List.take_left]
theorem en_right {a b x : List UInt8} {m : Nat} (h : x.length ≤ m) : En (a ++ b) x (a.length + m) ↔ En b x m := by
  unfold En
  rw [show a.length + m - x.length = a.length + (m - x.length) by omega, List.drop_length_add_append]
  exact ⟨fun e => ⟨h, e.2⟩, fun e => ⟨by omega, e.2⟩⟩
theorem en_occ {t x : List UInt8} {k : Nat} (hk : k + x.length ≤ t.length) : En t x (k + x.length) ↔ occAt t x k = true := by
  rw [occAt_iff_take _ _ _ hk, beq_iff_eq]
  unfold En
  rw [Nat.add_sub_cancel]
  exact ⟨fun e => e.2, fun e => ⟨by omega, e⟩⟩
/-- What strings.Index says. -/
theorem index_en {t x : List UInt8} (hx : x ≠ []) : (index t x = -1 ∧ ∀ n, ¬ En t x n) ∨ ∃ k : Nat, index t x = k ∧ k + x.length ≤ t.length ∧ En t x (k + x.length) ∧ ∀ n, n < k + x.length → ¬ En t x n := by
  have h0 := List.length_pos_iff.2 hx
  have hno : ∀ n, En t x n → ∃ k, n = k + x.length ∧ k + x.length ≤ t.length ∧ occAt t x k = true := fun n h => by
    have hr := h.room hx
    have h1 := h.1
    refine ⟨n - x.length, by omega, by omega, ?_⟩
    rw [← en_occ (by omega), show n - x.length + x.length = n by omega]
    exact h
  by_cases hex : ∃ k, occAt t x k = true ∧ ∀ j, j < k → occAt t x j = false
  · obtain ⟨k, hk, hj⟩ := hex
    have hr : k + x.length ≤ t.length := by
      rcases occAt_room hk with h | h
      · exact h
      · exact absurd h hx
    refine .inr ⟨k, index_first (by omega) hk hj, hr, (en_occ hr).2 hk, fun n hn h => ?_⟩
    obtain ⟨j, rfl, _, h3⟩ := hno n h
    exact absurd h3 (by rw [hj j (by omega)]; decide)
  · have hall : ∀ n j, j < n → occAt t x j = false := by
      intro n
      induction n with
      | zero => intro j hj; omega
      | succ n ih =>
        intro j hj
        cases ho : occAt t x j with
        | false => rfl
        | true => exact absurd ⟨j, ho, fun i hi => ih i (by omega)⟩ hex
    refine .inl ⟨index_none (fun j _ => hall (j + 1) j (Nat.lt_succ_self _)), fun n h => ?_⟩
    obtain ⟨j, _, _, h3⟩ := hno n h
    exact absurd h3 (by rw [hall (j + 1) j (Nat.lt_succ_self _)]; decide)

/-- Is the stop text i longer than the one that was best so far? -/
def bet (T : List (List UInt8)) (o : Option Nat) (i : Nat) : Bool := match o with
  | none => true
  | some j => decide ((tX T j).length < (tX T i).length)
/-- Of the first i stop texts the first of the longest with which the first n bytes end. -/
def bst (T : List (List UInt8)) (t : List UInt8) (n : Nat) : Nat → Option Nat
  | 0 => none
  | i + 1 => if En t (tX T i) n ∧ bet T (bst T t n i) i = true then some i else bst T t n i
theorem bst_some {T : List (List UInt8)} {t : List UInt8} {n : Nat} : ∀ {i p : Nat}, bst T t n i = some p → p < i ∧ En t (tX T p) n
  | 0, p, h => by cases h
  | i + 1, p, h => by
    unfold bst at h
    split at h
    · rename_i e
      injection h with h
      subst h
      exact ⟨Nat.lt_succ_self _, e.1⟩
    · have := bst_some h
      exact ⟨by omega, this.2⟩
theorem bst_none {T : List (List UInt8)} {t : List UInt8} {n : Nat} : ∀ {i : Nat}, bst T t n i = none ↔ ∀ j, j < i → ¬ En t (tX T j) n
  | 0 => ⟨fun _ j hj => absurd hj (Nat.not_lt_zero _), fun _ => rfl⟩
  | i + 1 => by
    unfold bst
    split
    · rename_i e
      exact ⟨fun h => (by cases h), fun h => absurd e.1 (h i (Nat.lt_succ_self _))⟩
    · rename_i e
      rw [bst_none]
      constructor
      · intro h j hj
        by_cases hji : j = i
        · subst hji
          intro he
          refine e ⟨he, ?_⟩
          rw [bst_none.2 h]
          rfl
        · exact h j (by omega)
      · exact fun h j hj => h j (by omega)
theorem bst_cong {T : List (List UInt8)} {t t' : List UInt8} {n n' : Nat} : ∀ {i : Nat}, (∀ j, j < i → (En t (tX T j) n ↔ En t' (tX T j) n')) → bst T t n i = bst T t' n' i
  | 0, _ => rfl
  | i + 1, h => by
    have ih := bst_cong (i := i) (fun j hj => h j (by omega))
    have hi := h i (Nat.lt_succ_self _)
    unfold bst
    rw [ih]
    by_cases e : En t (tX T i) n ∧ bet T (bst T t' n' i) i = true
    · rw [if_pos e, if_pos ⟨hi.1 e.1, e.2⟩]
    · rw [if_neg e, if_neg (fun e2 => e ⟨hi.2 e2.1, e2.2⟩)]
theorem bst_skip {T : List (List UInt8)} {t : List UInt8} {n i : Nat} (h : ¬ En t (tX T i) n) : bst T t n (i + 1) = bst T t n i := by
  conv => lhs; unfold bst
  rw [if_neg (fun e => h e.1)]

/-- The first number below n at which p holds. -/
def f1st (p : Nat → Bool) : Nat → Option Nat
  | 0 => none
  | n + 1 => match f1st p n with
    | some k => some k
    | none => if p n then some n else none
theorem f1st_none {p : Nat → Bool} : ∀ {n : Nat}, f1st p n = none ↔ ∀ j, j < n → p j = false
  | 0 => ⟨fun _ j hj => absurd hj (Nat.not_lt_zero _), fun _ => rfl⟩
  | n + 1 => by
    unfold f1st
    cases h : f1st p n with
    | some k => exact ⟨fun e => (by cases e), fun e => by rw [f1st_none.2 (fun j hj => e j (by omega))] at h; cases h⟩
    | none =>
      have ih := f1st_none.1 h
      cases hp : p n with
      | true => exact ⟨fun e => by simp at e, fun e => by rw [e n (Nat.lt_succ_self _)] at hp; cases hp⟩
      | false =>
        refine ⟨fun _ j hj => ?_, fun _ => by simp⟩
        by_cases hj2 : j = n
        · rw [hj2]; exact hp
        · exact ih j (by omega)
theorem f1st_of {p : Nat → Bool} : ∀ {n k : Nat}, k < n → p k = true → (∀ j, j < k → p j = false) → f1st p n = some k
  | 0, k, h, _, _ => absurd h (Nat.not_lt_zero _)
  | n + 1, k, h, hk, hj => by
    unfold f1st
    by_cases e : k = n
    · subst e
      rw [f1st_none.2 hj]
      show (if p k = true then some k else none) = some k
      rw [if_pos hk]
    · rw [f1st_of (show k < n by omega) hk hj]
theorem f1st_some {p : Nat → Bool} : ∀ {n k : Nat}, f1st p n = some k → k < n ∧ p k = true ∧ ∀ j, j < k → p j = false
  | 0, k, h => by cases h
  | n + 1, k, h => by
    unfold f1st at h
    cases e : f1st p n with
    | some k2 =>
      rw [e] at h
      injection h with h
      subst h
      have := f1st_some e
      exact ⟨by omega, this.2⟩
    | none =>
      rw [e] at h
      have h : (if p n = true then some n else none) = some k := h
      split at h
      · rename_i hp
        injection h with h
        subst h
        exact ⟨Nat.lt_succ_self _, hp, f1st_none.1 e⟩
      · cases h
/-- Where a text ends that a stop text ends. -/
def cuN (T : List (List UInt8)) (t : List UInt8) : Option Nat := f1st (fun n => (bst T t n T.length).isSome) (t.length + 1)
/-- Which stop text was met; -1: none. -/
def cuM (T : List (List UInt8)) (t : List UInt8) : Int := match cuN T t with
  | none => -1
  | some n => ((bst T t n T.length).getD 0 : Nat)
/-- The text up to there. -/
def cuS (T : List (List UInt8)) (t : List UInt8) : List UInt8 := match cuN T t with
  | none => t
  | some n => t.take (n - (tX T ((bst T t n T.length).getD 0)).length)
def NoCut (T : List (List UInt8)) (t : List UInt8) : Prop := ∀ n, bst T t n T.length = none
theorem cuN_none {T : List (List UInt8)} {t : List UInt8} (hT : ∀ j, j < T.length → tX T j ≠ []) : cuN T t = none ↔ NoCut T t := by
  unfold cuN
  rw [f1st_none]
  constructor
  · intro h n
    by_cases hn : n < t.length + 1
    · have := h n hn
      simpa using this
    · exact bst_none.2 (fun j hj e => hn (by have := e.room (hT j hj); omega))
  · intro h n _
    rw [h n]
    rfl
theorem cuN_of {T : List (List UInt8)} {t : List UInt8} {e p : Nat} (hT : ∀ j, j < T.length → tX T j ≠ []) (h : bst T t e T.length = some p) (hj : ∀ n, n < e → bst T t n T.length = none) : cuN T t = some e ∧ cuM T t = p ∧ cuS T t = t.take (e - (tX T p).length) := by
  have h1 : cuN T t = some e := by
    refine f1st_of ?_ (by rw [h]; rfl) (fun n hn => by rw [hj n hn]; rfl)
    have := bst_some h
    have := this.2.room (hT p this.1)
    omega
  refine ⟨h1, ?_, ?_⟩
  · unfold cuM; rw [h1]; simp [h]
  · unfold cuS; rw [h1]; simp [h]

/-- What firstStop knows behind i stop texts. -/
def FsI (T : List (List UInt8)) (t : List UInt8) (i : Nat) (place : Int) (fr e : Nat) : Prop :=
  (place = -1 ∧ fr = t.length ∧ e = t.length ∧ ∀ n, bst T t n i = none) ∨
  ∃ p : Nat, place = p ∧ e ≤ t.length ∧ bst T t e i = some p ∧ fr + (tX T p).length = e ∧ ∀ n, n < e → bst T t n i = none
theorem fsI_start (T : List (List UInt8)) (t : List UInt8) : FsI T t 0 (-1) t.length t.length := .inl ⟨rfl, rfl, rfl, fun _ => rfl⟩
theorem fsI_bd {T : List (List UInt8)} {t : List UInt8} {i fr e : Nat} {place : Int} (h : FsI T t i place fr e) : fr ≤ e ∧ e ≤ t.length := by
  rcases h with ⟨_, h1, h2, _⟩ | ⟨p, _, h2, _, h3, _⟩ <;> omega
theorem fsI_skip {T : List (List UInt8)} {t : List UInt8} {i fr e : Nat} {place : Int} (h : FsI T t i place fr e) (hx : tX T i ≠ []) (hi : ∀ n, ¬ En (t.take e) (tX T i) n) : FsI T t (i + 1) place fr e := by
  have hs : ∀ n, n ≤ e → ¬ En t (tX T i) n := fun n hn he => hi n ((en_take hn).2 he)
  rcases h with ⟨h0, h1, h2, h3⟩ | ⟨p, h0, h1, h2, h3, h4⟩
  · refine .inl ⟨h0, h1, h2, fun n => ?_⟩
    rw [bst_skip (fun he => hs n (by have := he.room hx; omega) he)]
    exact h3 n
  · refine .inr ⟨p, h0, h1, by rw [bst_skip (hs e (Nat.le_refl _))]; exact h2, h3, fun n hn => ?_⟩
    rw [bst_skip (hs n (by omega))]
    exact h4 n hn
theorem fsI_new {T : List (List UInt8)} {t : List UInt8} {i fr e k : Nat} {place : Int} (h : FsI T t i place fr e) (hk : k + (tX T i).length ≤ e) (he : En (t.take e) (tX T i) (k + (tX T i).length)) (hn : ∀ n, n < k + (tX T i).length → ¬ En (t.take e) (tX T i) n) (hb : k + (tX T i).length < e ∨ k < fr) : FsI T t (i + 1) i k (k + (tX T i).length) := by
  have hb2 := (fsI_bd h).2
  have he' := (en_take hk).1 he
  have hn' : ∀ n, n < k + (tX T i).length → ¬ En t (tX T i) n := fun n h2 h3 => hn n h2 ((en_take (by omega)).2 h3)
  have hold : ∀ n, n < k + (tX T i).length → bst T t n i = none := by
    rcases h with ⟨_, _, _, h3⟩ | ⟨p, _, _, _, _, h4⟩
    · exact fun n _ => h3 n
    · exact fun n h2 => h4 n (by omega)
  have hbet : bet T (bst T t (k + (tX T i).length) i) i = true := by
    rcases h with ⟨_, _, _, h3⟩ | ⟨p, _, _, h2, h3, h4⟩
    · rw [h3]; rfl
    · by_cases hlt : k + (tX T i).length < e
      · rw [h4 _ hlt]; rfl
      · have hee : k + (tX T i).length = e := by omega
        rw [hee, h2]
        exact decide_eq_true (by omega)
  refine .inr ⟨i, rfl, by omega, ?_, rfl, fun n h2 => by rw [bst_skip (hn' n h2)]; exact hold n h2⟩
  unfold bst
  rw [if_pos ⟨he', hbet⟩]
theorem fsI_old {T : List (List UInt8)} {t : List UInt8} {i fr e k : Nat} {place : Int} (h : FsI T t i place fr e) (hk : k + (tX T i).length ≤ e) (hn : ∀ n, n < k + (tX T i).length → ¬ En (t.take e) (tX T i) n) (hb : ¬ (k + (tX T i).length < e ∨ k < fr)) (hx : tX T i ≠ []) : FsI T t (i + 1) place fr e := by
  have h0 := List.length_pos_iff.2 hx
  have hb2 := (fsI_bd h).2
  have hee : k + (tX T i).length = e := by omega
  have hn' : ∀ n, n < e → ¬ En t (tX T i) n := fun n h2 h3 => hn n (by omega) ((en_take (by omega)).2 h3)
  rcases h with ⟨_, h1, h2, _⟩ | ⟨p, h0, h1, h2, h3, h4⟩
  · omega
  · refine .inr ⟨p, h0, h1, ?_, h3, fun n hlt => by rw [bst_skip (hn' n hlt)]; exact h4 n hlt⟩
    unfold bst
    rw [if_neg, h2]
    rintro ⟨_, h5⟩
    rw [h2] at h5
    have := of_decide_eq_true h5
    omega
theorem fsI_end {T : List (List UInt8)} {t : List UInt8} {fr e : Nat} {place : Int} (hT : ∀ j, j < T.length → tX T j ≠ []) (h : FsI T t T.length place fr e) : place = cuM T t ∧ (place = -1 → NoCut T t) ∧ (place ≠ -1 → t.take fr = cuS T t ∧ cuN T t = some e) ∧ fr ≤ t.length := by
  have hbd := fsI_bd h
  rcases h with ⟨h0, h1, h2, h3⟩ | ⟨p, h0, h1, h2, h3, h4⟩
  · refine ⟨?_, fun _ => h3, fun e => absurd h0 e, by omega⟩
    unfold cuM
    rw [(cuN_none hT).2 h3]
    exact h0
  · obtain ⟨e1, e2, e3⟩ := cuN_of hT h2 h4
    refine ⟨by rw [e2]; exact h0, fun e => by omega, fun _ => ⟨?_, e1⟩, by omega⟩
    rw [e3, ← h3, Nat.add_sub_cancel]
end Go.Proofs.YtomeoklhjdgaoaaDoor
