/-
  Guides: numbers. Edges, where a byte leads, which edges are right, what is alive, where a text leads.
-/
import Derived.Test.YtdponkpgokncdaaBase
namespace Go.Proofs.Ytdponkpgokncdaa

/-- An edge. -/
structure Ed where
  f : Int
  lo : Nat
  hi : Nat
  t : Int
def gE (E : List Ed) (i : Nat) : Ed := E.getD i ⟨0, 0, 0, 0⟩
/-- Does an edge lead on from a state by a byte? -/
def Cov (e : Ed) (s c : Nat) : Prop := e.f = (s : Int) ∧ e.lo ≤ c ∧ c ≤ e.hi
def covB (e : Ed) (s c : Nat) : Bool := decide (e.f = (s : Int)) && decide (e.lo ≤ c) && decide (c ≤ e.hi)
theorem covB_iff {e : Ed} {s c : Nat} : covB e s c = true ↔ Cov e s c := by
  unfold covB Cov
  simp only [Bool.and_eq_true, decide_eq_true_eq, and_assoc]
/-- Where a byte leads by the first k edges. -/
def stF (E : List Ed) : Nat → Nat → Nat → Int
  | 0, _, _ => -1
  | k + 1, s, c => if covB (gE E k) s c = true then (gE E k).t else stF E k s c
theorem stF_yes {E : List Ed} {k s c : Nat} (h : Cov (gE E k) s c) : stF E (k + 1) s c = (gE E k).t := if_pos (covB_iff.2 h)
theorem stF_no {E : List Ed} {k s c : Nat} (h : ¬ Cov (gE E k) s c) : stF E (k + 1) s c = stF E k s c := if_neg (fun e => h (covB_iff.1 e))
theorem stF_none {E : List Ed} {s c : Nat} : ∀ {k : Nat}, (∀ j, j < k → ¬ Cov (gE E j) s c) → stF E k s c = -1
  | 0, _ => rfl
  | k + 1, h => by rw [stF_no (h k (by omega))]; exact stF_none (fun j hj => h j (by omega))
theorem stF_some {E : List Ed} {s c : Nat} : ∀ {k : Nat}, stF E k s c ≠ -1 → ∃ j, j < k ∧ Cov (gE E j) s c
  | 0, h => absurd rfl h
  | k + 1, h => by
    by_cases e : Cov (gE E k) s c
    · exact ⟨k, by omega, e⟩
    · rw [stF_no e] at h
      obtain ⟨j, hj, hc⟩ := stF_some h
      exact ⟨j, by omega, hc⟩
theorem stF_range {E : List Ed} {n : Int} {s c : Nat} : ∀ {k : Nat}, (∀ j, j < k → 0 ≤ (gE E j).t ∧ (gE E j).t < n) → (stF E k s c = -1 ∧ ∀ j, j < k → ¬ Cov (gE E j) s c) ∨ (0 ≤ stF E k s c ∧ stF E k s c < n)
  | 0, _ => .inl ⟨rfl, fun _ h => absurd h (Nat.not_lt_zero _)⟩
  | k + 1, h => by
    by_cases e : Cov (gE E k) s c
    · rw [stF_yes e]; exact .inr (h k (by omega))
    · rw [stF_no e]
      rcases stF_range (s := s) (c := c) (fun j hj => h j (by omega) : ∀ j, j < k → _) with ⟨h1, h2⟩ | h1
      · exact .inl ⟨h1, fun j hj => by
          rcases Nat.lt_or_ge j k with e2 | e2
          · exact h2 j e2
          · obtain rfl : j = k := by omega
            exact e⟩
      · exact .inr h1
/-- Are so many bytes from one on free? -/
def frB (g : Nat → Int) (lo : Nat) : Nat → Bool
  | 0 => true
  | m + 1 => frB g lo m && decide (g (lo + m) = -1)
theorem frB_iff {g : Nat → Int} {lo : Nat} : ∀ {m : Nat}, frB g lo m = true ↔ ∀ j, j < m → g (lo + j) = -1
  | 0 => ⟨fun _ _ h => absurd h (Nat.not_lt_zero _), fun _ => rfl⟩
  | m + 1 => by
    unfold frB
    rw [Bool.and_eq_true, decide_eq_true_eq, frB_iff]
    exact ⟨fun h j hj => by
      rcases Nat.lt_or_ge j m with e | e
      · exact h.1 j e
      · obtain rfl : j = m := by omega
        exact h.2, fun h => ⟨fun j hj => h j (by omega), h m (by omega)⟩⟩
/-- Does an edge's state, its target and its bytes fit? -/
def fitB (n : Nat) (e : Ed) : Bool := decide (0 ≤ e.f) && decide (e.f < (n : Int)) && decide (0 ≤ e.t) && decide (e.t < (n : Int)) && decide (e.lo ≤ e.hi)
theorem fitB_iff {n : Nat} {e : Ed} : fitB n e = true ↔ 0 ≤ e.f ∧ e.f < (n : Int) ∧ 0 ≤ e.t ∧ e.t < (n : Int) ∧ e.lo ≤ e.hi := by
  unfold fitB
  simp only [Bool.and_eq_true, decide_eq_true_eq, and_assoc]
def okB (n : Nat) (E : List Ed) (i : Nat) : Bool := fitB n (gE E i) && frB (stF E i (gE E i).f.toNat) (gE E i).lo ((gE E i).hi + 1 - (gE E i).lo)
/-- The first edge that is not right. -/
def bdF (n : Nat) (E : List Ed) : Nat → Option Nat
  | 0 => none
  | k + 1 => (bdF n E k).or (if okB n E k = true then none else some k)
theorem bdF_none {n : Nat} {E : List Ed} : ∀ {k : Nat}, bdF n E k = none ↔ ∀ i, i < k → okB n E i = true
  | 0 => ⟨fun _ _ h => absurd h (Nat.not_lt_zero _), fun _ => rfl⟩
  | k + 1 => by
    unfold bdF
    rw [Option.or_eq_none_iff, bdF_none]
    constructor
    · rintro ⟨h1, h2⟩ i hi
      rcases Nat.lt_or_ge i k with e | e
      · exact h1 i e
      · obtain rfl : i = k := by omega
        cases hk : okB n E i with
        | true => rfl
        | false => rw [hk] at h2; simp at h2
    · intro h
      exact ⟨fun i hi => h i (by omega), by rw [if_pos (h k (by omega))]⟩
theorem bdF_bad {n : Nat} {E : List Ed} {k : Nat} (h0 : bdF n E k = none) (h1 : okB n E k = false) : bdF n E (k + 1) = some k := by
  unfold bdF
  rw [h0, h1]
  rfl
theorem bdF_good {n : Nat} {E : List Ed} {k : Nat} (h0 : bdF n E k = none) (h1 : okB n E k = true) : bdF n E (k + 1) = none := by
  unfold bdF
  rw [h0, h1]
  rfl
theorem bdF_stay {n : Nat} {E : List Ed} {k i : Nat} (h : bdF n E k = some i) : ∀ m, bdF n E (k + m) = some i
  | 0 => h
  | m + 1 => by
    show bdF n E (k + m + 1) = _
    unfold bdF
    rw [bdF_stay h m]
    rfl
theorem bdF_le {n : Nat} {E : List Ed} {k i m : Nat} (h : bdF n E k = some i) (hm : k ≤ m) : bdF n E m = some i := by
  have := bdF_stay h (m - k)
  rwa [show k + (m - k) = m by omega] at this
theorem okB_fit {n : Nat} {E : List Ed} {i : Nat} (h : okB n E i = true) : fitB n (gE E i) = true := by
  unfold okB at h
  rw [Bool.and_eq_true] at h
  exact h.1
/-- Two edges that share a byte. -/
def Lap (a b : Ed) : Prop := a.f = b.f ∧ a.lo ≤ b.hi ∧ b.lo ≤ a.hi
theorem okB_iff {n : Nat} {E : List Ed} {i : Nat} (h : ∀ j, j < i → okB n E j = true) : okB n E i = true ↔ fitB n (gE E i) = true ∧ ∀ k, k < i → ¬ Lap (gE E k) (gE E i) := by
  unfold okB
  rw [Bool.and_eq_true, frB_iff]
  constructor
  · rintro ⟨h1, h2⟩
    refine ⟨h1, fun k hk hl => ?_⟩
    obtain ⟨g1, g2, g3, g4, g5⟩ := fitB_iff.1 h1
    obtain ⟨k1, k2, k3, k4, k5⟩ := fitB_iff.1 (okB_fit (h k hk))
    obtain ⟨l1, l2, l3⟩ := hl
    have hc : Cov (gE E k) (gE E i).f.toNat (max (gE E k).lo (gE E i).lo) := ⟨by rw [Int.toNat_of_nonneg g1]; exact l1, by omega, by omega⟩
    have h3 := h2 (max (gE E k).lo (gE E i).lo - (gE E i).lo) (by omega)
    rw [show (gE E i).lo + (max (gE E k).lo (gE E i).lo - (gE E i).lo) = max (gE E k).lo (gE E i).lo by omega] at h3
    rcases stF_range (E := E) (n := n) (s := (gE E i).f.toNat) (c := max (gE E k).lo (gE E i).lo) (k := i) (fun j hj => by
      obtain ⟨_, _, q1, q2, _⟩ := fitB_iff.1 (okB_fit (h j hj))
      exact ⟨q1, q2⟩) with ⟨_, e⟩ | ⟨e, _⟩
    · exact e k hk hc
    · omega
  · rintro ⟨h1, h2⟩
    refine ⟨h1, fun j hj => ?_⟩
    obtain ⟨g1, g2, g3, g4, g5⟩ := fitB_iff.1 h1
    refine stF_none (fun k hk hc => h2 k hk ?_)
    obtain ⟨c1, c2, c3⟩ := hc
    rw [Int.toNat_of_nonneg g1] at c1
    exact ⟨c1, by omega, by omega⟩

/-- Which states are found alive in so many rounds. -/
def alL (f : Nat → Nat → Int) (A : List Bool) : Nat → List Bool
  | 0 => A
  | k + 1 => (List.range A.length).map (fun s => (alL f A k).getD s false || (List.range 256).any (fun c => decide (0 ≤ f s c) && (alL f A k).getD (f s c).toNat false))
theorem alL_len (f : Nat → Nat → Int) (A : List Bool) : ∀ k, (alL f A k).length = A.length
  | 0 => rfl
  | k + 1 => by unfold alL; rw [List.length_map, List.length_range]
theorem getB_lt {l : List Bool} {i : Nat} (h : l.getD i false = true) : i < l.length := by
  rcases Nat.lt_or_ge i l.length with e | e
  · exact e
  · rw [List.getD_eq_getElem?_getD, List.getElem?_eq_none e] at h
    cases h
theorem alL_next {f : Nat → Nat → Int} {A : List Bool} {k s : Nat} (hs : s < A.length) : (alL f A (k + 1)).getD s false = true ↔ (alL f A k).getD s false = true ∨ ∃ c, c < 256 ∧ 0 ≤ f s c ∧ (alL f A k).getD (f s c).toNat false = true := by
  have e : (alL f A (k + 1)).getD s false = ((alL f A k).getD s false || (List.range 256).any (fun c => decide (0 ≤ f s c) && (alL f A k).getD (f s c).toNat false)) := by
    conv => lhs; unfold alL
    rw [List.getD_eq_getElem?_getD, List.getElem?_map, List.getElem?_range hs]
    rfl
  rw [e, Bool.or_eq_true, List.any_eq_true]
  constructor
  · rintro (h | ⟨c, hc, h⟩)
    · exact .inl h
    · rw [Bool.and_eq_true, decide_eq_true_eq] at h
      exact .inr ⟨c, List.mem_range.1 hc, h.1, h.2⟩
  · rintro (h | ⟨c, hc, h1, h2⟩)
    · exact .inl h
    · exact .inr ⟨c, List.mem_range.2 hc, by rw [Bool.and_eq_true, decide_eq_true_eq]; exact ⟨h1, h2⟩⟩
/-- Alive. -/
def Lv (f : Nat → Nat → Int) (A : List Bool) (s : Nat) : Prop := ∃ k, (alL f A k).getD s false = true
theorem Lv.lt {f : Nat → Nat → Int} {A : List Bool} {s : Nat} (h : Lv f A s) : s < A.length := by
  obtain ⟨k, hk⟩ := h
  have := getB_lt hk
  rwa [alL_len] at this
theorem Lv.acc {f : Nat → Nat → Int} {A : List Bool} {s : Nat} (h : A.getD s false = true) : Lv f A s := ⟨0, h⟩
theorem Lv.step {f : Nat → Nat → Int} {A : List Bool} {s c : Nat} (hs : s < A.length) (hc : c < 256) (h0 : 0 ≤ f s c) (h : Lv f A (f s c).toNat) : Lv f A s := by
  obtain ⟨k, hk⟩ := h
  exact ⟨k + 1, (alL_next hs).2 (.inr ⟨c, hc, h0, hk⟩)⟩
theorem Lv.least {f : Nat → Nat → Int} {A : List Bool} {P : Nat → Prop} (h0 : ∀ s, A.getD s false = true → P s) (h1 : ∀ s c, s < A.length → c < 256 → 0 ≤ f s c → P (f s c).toNat → P s) {s : Nat} (h : Lv f A s) : P s := by
  obtain ⟨k, hk⟩ := h
  induction k generalizing s with
  | zero => exact h0 s hk
  | succ k ih =>
    have hs := getB_lt hk
    rw [alL_len] at hs
    rcases (alL_next hs).1 hk with e | ⟨c, hc, h2, h3⟩
    · exact ih e
    · exact h1 s c hs hc h2 (ih h3)
theorem more_true : ∀ (a b : List Bool), a.length = b.length → (∀ i, a.getD i false = true → b.getD i false = true) → a = b ∨ a.count true < b.count true
  | [], [], _, _ => .inl rfl
  | [], _ :: _, h, _ => by simp at h
  | _ :: _, [], h, _ => by simp at h
  | x :: a, y :: b, h, hi => by
    have h0 := hi 0
    have ht := more_true a b (by simpa using h) (fun i hi2 => hi (i + 1) hi2)
    cases x <;> cases y
    · rcases ht with e | e
      · rw [e]; exact .inl rfl
      · right; simpa using e
    · right
      rcases ht with e | e
      · rw [e]; simp
      · simp; omega
    · exact absurd (h0 rfl) (by simp)
    · rcases ht with e | e
      · rw [e]; exact .inl rfl
      · right; simpa using e
theorem alL_up {f : Nat → Nat → Int} {A : List Bool} {k i : Nat} (h : (alL f A k).getD i false = true) : (alL f A (k + 1)).getD i false = true := by
  have hs := getB_lt h
  rw [alL_len] at hs
  exact (alL_next hs).2 (.inl h)
theorem alL_same {f : Nat → Nat → Int} {A : List Bool} {j : Nat} (h : alL f A (j + 1) = alL f A j) : ∀ m, alL f A (j + m) = alL f A j
  | 0 => rfl
  | m + 1 => by
    show alL f A (j + m + 1) = _
    have e := alL_same h m
    have h' : ∀ X Y, alL f A X = alL f A Y → alL f A (X + 1) = alL f A (Y + 1) := fun X Y e => by unfold alL; rw [e]
    rw [h' _ _ e, h]
theorem alL_stab (f : Nat → Nat → Int) (A : List Bool) : ∀ k, (∃ j, j < k ∧ alL f A (j + 1) = alL f A j) ∨ k ≤ (alL f A k).count true
  | 0 => .inr (Nat.zero_le _)
  | k + 1 => by
    rcases alL_stab f A k with ⟨j, hj, e⟩ | e
    · exact .inl ⟨j, by omega, e⟩
    · rcases more_true (alL f A k) (alL f A (k + 1)) (by rw [alL_len, alL_len]) (fun i h => alL_up h) with e2 | e2
      · exact .inl ⟨k, by omega, e2.symm⟩
      · right; omega
/-- What is alive, as a list. -/
def lvL (f : Nat → Nat → Int) (A : List Bool) : List Bool := alL f A A.length
theorem lvL_len (f : Nat → Nat → Int) (A : List Bool) : (lvL f A).length = A.length := alL_len f A _
theorem lvL_iff {f : Nat → Nat → Int} {A : List Bool} {s : Nat} : (lvL f A).getD s false = true ↔ Lv f A s := by
  refine ⟨fun h => ⟨_, h⟩, fun h => ?_⟩
  have hs := h.lt
  obtain ⟨k, hk⟩ := h
  rcases alL_stab f A A.length with ⟨j, hj, e⟩ | e
  · have e1 := alL_same e (A.length - j)
    rw [show j + (A.length - j) = A.length by omega] at e1
    have hup : ∀ m, (alL f A (k + m)).getD s false = true := by
      intro m
      induction m with
      | zero => exact hk
      | succ m ih => exact alL_up ih
    have e2 := alL_same e (k + A.length - j)
    rw [show j + (k + A.length - j) = k + A.length by omega] at e2
    unfold lvL
    rw [e1, ← e2]
    exact hup _
  · have e1 : (alL f A A.length).count true = (alL f A A.length).length := by
      have := List.count_le_length (a := true) (l := alL f A A.length)
      rw [alL_len] at this ⊢
      omega
    rw [List.count_eq_length] at e1
    unfold lvL
    have hs2 : s < (alL f A A.length).length := by rw [alL_len]; exact hs
    rw [List.getD_eq_getElem?_getD, List.getElem?_eq_getElem hs2]
    exact (e1 _ (List.getElem_mem hs2)).symm
/-- A list that tells of each whether it is alive. -/
theorem lvL_unique {f : Nat → Nat → Int} {A L : List Bool} (hl : L.length = A.length) (h : ∀ s, L.getD s false = true ↔ Lv f A s) : L = lvL f A := by
  apply List.ext_getElem
  · rw [hl, lvL_len]
  · intro i h1 h2
    have e1 : L.getD i false = L[i] := by rw [List.getD_eq_getElem?_getD, List.getElem?_eq_getElem h1]; rfl
    have e2 : (lvL f A).getD i false = (lvL f A)[i] := by rw [List.getD_eq_getElem?_getD, List.getElem?_eq_getElem h2]; rfl
    have h3 : L.getD i false = true ↔ (lvL f A).getD i false = true := (h i).trans lvL_iff.symm
    rw [e1, e2] at h3
    cases hx : L[i] <;> cases hy : (lvL f A)[i] <;> simp_all

/-- The machine of a guide: one of no states is one state that all comes back to. -/
def nA (A : List Bool) : List Bool := if A.isEmpty then [true] else A
def nE (A : List Bool) (E : List Ed) : List Ed := if A.isEmpty then [⟨0, 0, 255, 0⟩] else E
def mF (A : List Bool) (E : List Ed) : Nat → Nat → Int := stF (nE A E) (nE A E).length
/-- What Check tells. -/
def chE (A : List Bool) (E : List Ed) : Nat :=
  if 64 < A.length then 150 else if 1024 < E.length then 151 else match bdF A.length E E.length with
    | some _ => 151
    | none => if (lvL (mF A E) (nA A)).getD 0 false then 0 else 152
def chP (A : List Bool) (E : List Ed) : Nat :=
  if 64 < A.length then 64 else if 1024 < E.length then 1024 else match bdF A.length E E.length with
    | some i => i
    | none => 0
/-- Where a text leads. -/
def wkF (f : Nat → Nat → Int) : Int → List UInt8 → Int
  | s, [] => s
  | s, b :: r => if s = -1 then -1 else wkF f (f s.toNat b.toNat) r
theorem wkF_dead (f : Nat → Nat → Int) : ∀ l, wkF f (-1) l = -1
  | [] => rfl
  | _ :: _ => if_pos rfl
theorem wkF_append (f : Nat → Nat → Int) : ∀ (a b : List UInt8) (s : Int), wkF f s (a ++ b) = wkF f (wkF f s a) b
  | [], _, _ => rfl
  | x :: a, b, s => by
    show (if s = -1 then -1 else wkF f _ (a ++ b)) = wkF f (if s = -1 then -1 else wkF f _ a) b
    split
    · exact (wkF_dead f b).symm
    · exact wkF_append f a b _
theorem wkF_snoc (f : Nat → Nat → Int) (l : List UInt8) (b : UInt8) (s : Int) : wkF f s (l ++ [b]) = if wkF f s l = -1 then -1 else f (wkF f s l).toNat b.toNat := wkF_append f l [b] s
theorem wkF_range {f : Nat → Nat → Int} {n : Int} (hf : ∀ s c, f s c = -1 ∨ (0 ≤ f s c ∧ f s c < n)) : ∀ (l : List UInt8) (s : Int), (s = -1 ∨ (0 ≤ s ∧ s < n)) → (wkF f s l = -1 ∨ (0 ≤ wkF f s l ∧ wkF f s l < n))
  | [], _, h => h
  | x :: a, s, h => by
    show (if s = -1 then -1 else wkF f _ a) = -1 ∨ (0 ≤ (if s = -1 then -1 else wkF f _ a) ∧ (if s = -1 then -1 else wkF f _ a) < n)
    split
    · exact .inl rfl
    · exact wkF_range hf a _ (hf _ _)
def wlF (A : List Bool) (E : List Ed) (s : Int) (l : List UInt8) : Int := if chE A E = 0 ∧ 0 ≤ s ∧ s < ((nA A).length : Int) then wkF (mF A E) s l else -1
theorem chE_zero {A : List Bool} {E : List Ed} (h : chE A E = 0) : A.length ≤ 64 ∧ E.length ≤ 1024 ∧ bdF A.length E E.length = none ∧ (lvL (mF A E) (nA A)).getD 0 false = true := by
  unfold chE at h
  split at h
  · omega
  · split at h
    · omega
    · split at h
      · omega
      · split at h
        · rename_i h1 h2 _ h3 h4
          exact ⟨by omega, by omega, h3, h4⟩
        · omega
theorem mF_range {A : List Bool} {E : List Ed} (hb : bdF A.length E E.length = none) (s c : Nat) : mF A E s c = -1 ∨ (0 ≤ mF A E s c ∧ mF A E s c < ((nA A).length : Int)) := by
  unfold mF
  cases he : A.isEmpty with
  | true =>
    have e1 : nE A E = [⟨0, 0, 255, 0⟩] := by unfold nE; rw [he]; rfl
    have e2 : nA A = [true] := by unfold nA; rw [he]; rfl
    rw [e1, e2]
    rcases stF_range (E := [⟨0, 0, 255, 0⟩]) (n := 1) (s := s) (c := c) (k := 1) (fun j hj => by
      obtain rfl : j = 0 := by omega
      exact ⟨by decide, by decide⟩) with h | h
    · exact .inl h.1
    · exact .inr h
  | false =>
    have e1 : nE A E = E := by unfold nE; rw [he]; rfl
    have e2 : nA A = A := by unfold nA; rw [he]; rfl
    rw [e1, e2]
    rcases stF_range (E := E) (n := A.length) (s := s) (c := c) (k := E.length) (fun j hj => by
      obtain ⟨_, _, q1, q2, _⟩ := fitB_iff.1 (okB_fit (bdF_none.1 hb j hj))
      exact ⟨q1, q2⟩) with h | h
    · exact .inl h.1
    · exact .inr h
end Go.Proofs.Ytdponkpgokncdaa
