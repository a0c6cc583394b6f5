/-
  The document's size, later, fits.
-/
import Derived.Test.YtomeoklhjdgaoaaDoorSta
namespace Go.Proofs.YtomeoklhjdgaoaaDoor
open Go.RowKit Go.Lib Go.Maps

set_option maxHeartbeats 1000000 in
set_option maxRecDepth 100000 in
theorem refSize_any (b : Nat) (w : World) (hb : b < 256) :
    Calls Tryd.prog 29 #[.int .u8 (b : Int)] w fun e w' => e = .returned (zV (szN b)) ∧ w' = w := by
  have hs := sz_cls b
  generalize szN b = s at *
  by_cases h1 : b < 128
  · have hs1 : Hid (s = 1) := by show _ = _; omega
    have c1 : (b : Int) < 128 := by omega
    clear hs
    go_enter Tryd.func29, Tryd.ntmps29
    go_wp2
    go_ret
    exact ⟨by rw [hs1.out]; rfl, rfl⟩
  have c1 : ¬ (b : Int) < 128 := by omega
  by_cases h2 : 194 ≤ b
  · have c2 : decide ((194 : Int) ≤ (b : Int)) = true := decide_eq_true (by omega)
    by_cases h3 : b ≤ 223
    · have hs1 : Hid (s = 2) := by show _ = _; omega
      have c3 : decide ((b : Int) ≤ 223) = true := decide_eq_true (by omega)
      clear hs
      go_enter Tryd.func29, Tryd.ntmps29
      go_wp2
      go_ret
      exact ⟨by rw [hs1.out]; rfl, rfl⟩
    have c3 : decide ((b : Int) ≤ 223) = false := decide_eq_false (by omega)
    have c4 : decide ((224 : Int) ≤ (b : Int)) = true := decide_eq_true (by omega)
    by_cases h4 : b ≤ 239
    · have hs1 : Hid (s = 3) := by show _ = _; omega
      have c5 : decide ((b : Int) ≤ 239) = true := decide_eq_true (by omega)
      clear hs
      go_enter Tryd.func29, Tryd.ntmps29
      go_wp2
      go_ret
      exact ⟨by rw [hs1.out]; rfl, rfl⟩
    have c5 : decide ((b : Int) ≤ 239) = false := decide_eq_false (by omega)
    have c6 : decide ((240 : Int) ≤ (b : Int)) = true := decide_eq_true (by omega)
    by_cases h5 : b ≤ 244
    · have hs1 : Hid (s = 4) := by show _ = _; omega
      have c7 : decide ((b : Int) ≤ 244) = true := decide_eq_true (by omega)
      clear hs
      go_enter Tryd.func29, Tryd.ntmps29
      go_wp2
      go_ret
      exact ⟨by rw [hs1.out]; rfl, rfl⟩
    have hs1 : Hid (s = 0) := by show _ = _; omega
    have c7 : decide ((b : Int) ≤ 244) = false := decide_eq_false (by omega)
    clear hs
    go_enter Tryd.func29, Tryd.ntmps29
    go_wp2
    go_ret
    exact ⟨by rw [hs1.out]; rfl, rfl⟩
  have hs1 : Hid (s = 0) := by show _ = _; omega
  have c2 : decide ((194 : Int) ≤ (b : Int)) = false := decide_eq_false (by omega)
  have c4 : decide ((224 : Int) ≤ (b : Int)) = false := decide_eq_false (by omega)
  have c6 : decide ((240 : Int) ≤ (b : Int)) = false := decide_eq_false (by omega)
  clear hs
  go_enter Tryd.func29, Tryd.ntmps29
  go_wp2
  go_ret
  exact ⟨by rw [hs1.out]; rfl, rfl⟩
/-- A byte's place between its bounds. -/
def laB (f k c : Nat) : Bool := decide (LaN f k c)
theorem laB_of {f k c lo hi : Nat} (h1 : loN f k = lo) (h2 : hiN f k = hi) : laB f k c = (decide ((lo : Int) ≤ (c : Int)) && decide ((c : Int) ≤ (hi : Int))) := by
  unfold laB LaN
  rw [h1, h2, Bool.eq_iff_iff, Bool.and_eq_true, decide_eq_true_iff, decide_eq_true_iff, decide_eq_true_iff]
  omega
set_option maxHeartbeats 2000000 in
set_option maxRecDepth 100000 in
theorem refLater_any (f k c : Nat) (w : World) (hk : 1 ≤ k ∧ k ≤ 4) (hf : f < 256) (hc : c < 256) :
    Calls Tryd.prog 51 #[.int .u8 (f : Int), .int .i64 (k : Int), .int .u8 (c : Int)] w fun e w' => e = .returned (.bool (laB f k c)) ∧ w' = w := by
  by_cases h1 : k = 1
  · subst h1
    by_cases g1 : f = 224
    · subst g1
      have hb : Hid _ := laB_of (f := 224) (k := 1) (c := c) (lo := 160) (hi := 191) rfl rfl
      go_enter Tryd.func51, Tryd.ntmps51
      go_wp2
      all_goals (go_ret; exact ⟨by rw [hb.out]; simp; omega, rfl⟩)
    by_cases g2 : f = 237
    · subst g2
      have hb : Hid _ := laB_of (f := 237) (k := 1) (c := c) (lo := 128) (hi := 159) rfl rfl
      go_enter Tryd.func51, Tryd.ntmps51
      go_wp2
      all_goals (go_ret; exact ⟨by rw [hb.out]; simp; omega, rfl⟩)
    by_cases g3 : f = 240
    · subst g3
      have hb : Hid _ := laB_of (f := 240) (k := 1) (c := c) (lo := 144) (hi := 191) rfl rfl
      go_enter Tryd.func51, Tryd.ntmps51
      go_wp2
      all_goals (go_ret; exact ⟨by rw [hb.out]; simp; omega, rfl⟩)
    by_cases g4 : f = 244
    · subst g4
      have hb : Hid _ := laB_of (f := 244) (k := 1) (c := c) (lo := 128) (hi := 143) rfl rfl
      go_enter Tryd.func51, Tryd.ntmps51
      go_wp2
      all_goals (go_ret; exact ⟨by rw [hb.out]; simp; omega, rfl⟩)
    have hb : Hid _ := laB_of (f := f) (k := 1) (c := c) (lo := 128) (hi := 191) (by unfold loN; simp [g1, g3]) (by unfold hiN; simp [g2, g4])
    have e1 : ((f : Int) == 224) = false := beq_eq_false_iff_ne.2 (by omega)
    have e2 : ((f : Int) == 237) = false := beq_eq_false_iff_ne.2 (by omega)
    have e3 : ((f : Int) == 240) = false := beq_eq_false_iff_ne.2 (by omega)
    have e4 : ((f : Int) == 244) = false := beq_eq_false_iff_ne.2 (by omega)
    clear g1 g2 g3 g4
    go_enter Tryd.func51, Tryd.ntmps51
    go_wp2
    all_goals (go_ret; exact ⟨by rw [hb.out]; simp; omega, rfl⟩)
  · have hb : Hid _ := laB_of (f := f) (k := k) (c := c) (lo := 128) (hi := 191) (by unfold loN; simp [h1]) (by unfold hiN; simp [h1])
    have e1 : ((k : Int) == 1) = false := beq_eq_false_iff_ne.2 (by omega)
    clear h1
    go_enter Tryd.func51, Tryd.ntmps51
    go_wp2
    all_goals (go_ret; exact ⟨by rw [hb.out]; simp; omega, rfl⟩)

/-- Does byte n still belong to the character that begins a text? -/
def OkA (l : List UInt8) (n : Nat) : Prop := n < l.length ∧ n < szN (bN l 0) ∧ (n = 0 ∨ LaN (bN l 0) n (bN l n))
def okA (l : List UInt8) (n : Nat) : Bool := decide (n < l.length) && (decide (n < szN (bN l 0)) && (decide (n = 0) || laB (bN l 0) n (bN l n)))
theorem okA_iff {l : List UInt8} {n : Nat} : okA l n = true ↔ OkA l n := by
  unfold okA OkA laB
  rw [Bool.and_eq_true, Bool.and_eq_true, Bool.or_eq_true, decide_eq_true_iff, decide_eq_true_iff, decide_eq_true_iff, decide_eq_true_iff]
/-- How many bytes are those of the character that begins. -/
def ftF (l : List UInt8) : Nat := (f1st (fun n => !okA l n) 5).getD 0
theorem ft_spec (l : List UInt8) : ftF l ≤ 4 ∧ okA l (ftF l) = false ∧ ∀ j, j < ftF l → okA l j = true := by
  have h4 : okA l 4 = false := by
    cases e : okA l 4 with
    | false => rfl
    | true => have := (okA_iff.1 e).2.1; have := szN_le (bN l 0); omega
  unfold ftF
  cases h : f1st (fun n => !okA l n) 5 with
  | none => have := f1st_none.1 h 4 (by omega); rw [h4] at this; cases this
  | some k =>
    obtain ⟨h1, h2, h3⟩ := f1st_some h
    refine ⟨by show k ≤ 4; omega, by simpa using h2, fun j hj => by simpa using h3 j hj⟩
theorem ft_is {l : List UInt8} {k : Nat} (h1 : okA l k = false) (h2 : ∀ j, j < k → okA l j = true) : ftF l = k := by
  obtain ⟨_, g2, g3⟩ := ft_spec l
  rcases Nat.lt_trichotomy (ftF l) k with h | h | h
  · rw [h2 _ h] at g2; cases g2
  · exact h
  · rw [g3 _ h] at h1; cases h1
theorem okN_all {l : List UInt8} {m : Nat} (h : ∀ j, j < m → okA l j = true) : OkN m (bN l 0) (bN l 1) (bN l 2) (bN l 3) :=
  ⟨fun e => ((okA_iff.1 (h 1 e)).2.2).resolve_left (by decide), fun e => ((okA_iff.1 (h 2 e)).2.2).resolve_left (by decide), fun e => ((okA_iff.1 (h 3 e)).2.2).resolve_left (by decide)⟩
theorem okA_of {l : List UInt8} {m j : Nat} (h : OkN m (bN l 0) (bN l 1) (bN l 2) (bN l 3)) (h4 : m ≤ 4) (hj : j < m) (h1 : j < l.length) (h2 : j < szN (bN l 0)) : okA l j = true := by
  refine okA_iff.2 ⟨h1, h2, ?_⟩
  match j, hj with
  | 0, _ => exact .inl rfl
  | 1, e => exact .inr (h.1 e)
  | 2, e => exact .inr (h.2.1 e)
  | 3, e => exact .inr (h.2.2 e)
  | j + 4, e => omega
/-- The character at the front, as the document has it. -/
theorem ch_ft (l : List UInt8) : (chW l ≠ 0 → ftF l = chW l ∧ szN (bN l 0) = chW l) ∧ (chW l = 0 → ¬ (0 < ftF l ∧ ftF l = szN (bN l 0))) := by
  constructor
  · intro h
    obtain ⟨h1, h2, h3⟩ := (chW_iff h).1 rfl
    refine ⟨ft_is ?_ (fun j hj => okA_of h3 (chW_le l).2 hj (by omega) (by omega)), h1.symm⟩
    cases e : okA l (chW l) with
    | false => rfl
    | true => have := (okA_iff.1 e).2.1; omega
  · rintro h ⟨h1, h2⟩
    obtain ⟨g1, g2, g3⟩ := ft_spec l
    have hc : chW l = ftF l := by
      refine (chW_iff (by omega)).2 ⟨h2, ?_, okN_all g3⟩
      have := (okA_iff.1 (g3 (ftF l - 1) (by omega))).1
      omega
    omega
theorem hf_ft (l : List UInt8) : hfL l = true ↔ (l ≠ [] ∧ ftF l = l.length ∧ l.length < szN (bN l 0)) := by
  constructor
  · intro h
    obtain ⟨h1, h2, h3⟩ := hfL_iff.1 h
    refine ⟨hfL_ne h, ft_is ?_ (fun j hj => okA_of h3 (by have := szN_le (bN l 0); omega) hj hj (by omega)), h2⟩
    cases e : okA l l.length with
    | false => rfl
    | true => have := (okA_iff.1 e).1; omega
  · rintro ⟨h1, h2, h3⟩
    obtain ⟨g1, g2, g3⟩ := ft_spec l
    rw [h2] at g3
    exact hfL_iff.2 ⟨List.length_pos_iff.2 h1, h3, okN_all g3⟩
end Go.Proofs.YtomeoklhjdgaoaaDoor
