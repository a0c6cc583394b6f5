/-
  Numbers of layer 9: rows that may be, the sum of their squares, the root, what becomes of a number.
-/
import Derived.Test.YtibbifklnimlcaaFsq
import Derived.Test.YtibbifklnimlcaaFwn
import Derived.Test.YtibbifklnimlcaaGvs
namespace Go.Proofs.Ytibbifklnimlcaa
open Go.RowKit

/-- A number that may be. -/
def Rc (z : Int) : Prop := -268435456 ≤ z ∧ z ≤ 268435456
def rcB (z : Int) : Bool := decide (-268435456 ≤ z) && decide (z ≤ 268435456)
theorem rcB_iff (z : Int) : rcB z = true ↔ Rc z := by simp [rcB, Rc]
/-- What is wrong with the numbers of a row. -/
def reE (zs : List Int) : Int := if zs.all rcB = true then 0 else 90
/-- What is wrong with a row. -/
def nE (zs : List Int) : Int := if zs.length < 1 ∨ 64 < zs.length then 1 else reE zs
theorem reE_ok {zs : List Int} (h : ∀ z ∈ zs, Rc z) : reE zs = 0 := if_pos (List.all_eq_true.2 fun z hz => (rcB_iff z).2 (h z hz))
theorem reE_bad {zs : List Int} {j : Nat} (hj : j < zs.length) (h : ¬ Rc (zs.getD j 0)) : reE zs = 90 := if_neg fun e => h (by
  rw [getD_getElem hj]
  exact (rcB_iff _).1 (List.all_eq_true.1 e _ (List.getElem_mem hj)))
theorem reE_zero {zs : List Int} (h : reE zs = 0) : ∀ z ∈ zs, Rc z := by
  unfold reE at h
  split at h
  · rename_i e
    exact fun z hz => (rcB_iff z).1 (List.all_eq_true.1 e z hz)
  · cases h
theorem nE_len {zs : List Int} (h : zs.length < 1 ∨ 64 < zs.length) : nE zs = 1 := if_pos h
theorem nE_re {zs : List Int} (h : ¬ (zs.length < 1 ∨ 64 < zs.length)) : nE zs = reE zs := if_neg h
theorem nE_zero {zs : List Int} (h : nE zs = 0) : 1 ≤ zs.length ∧ zs.length ≤ 64 ∧ ∀ z ∈ zs, Rc z := by
  unfold nE at h
  split at h
  · cases h
  · exact ⟨by omega, by omega, reE_zero h⟩
theorem nE_ok {zs : List Int} (h1 : 1 ≤ zs.length) (h2 : zs.length ≤ 64) (h : ∀ z ∈ zs, Rc z) : nE zs = 0 := by rw [nE_re (by omega), reE_ok h]
theorem take_all {P : Int → Prop} {zs : List Int} {j : Nat} (hj : j < zs.length) (h : ∀ z ∈ zs.take j, P z) (h1 : P (zs.getD j 0)) : ∀ z ∈ zs.take (j + 1), P z := by
  rw [take_snocD hj]
  intro z hz
  rcases List.mem_append.1 hz with e | e
  · exact h z e
  · simp at e; subst e; exact h1
theorem getD_all {P : Int → Prop} {zs : List Int} {j : Nat} (hj : j < zs.length) (h : ∀ z ∈ zs, P z) : P (zs.getD j 0) := by rw [getD_getElem hj]; exact h _ (List.getElem_mem hj)

theorem sq_bound {z : Int} (h : Rc z) : 0 ≤ z * z ∧ z * z ≤ 72057594037927936 := by
  obtain ⟨a, b⟩ := h
  refine ⟨by rcases Int.le_total 0 z with e | e; exact Int.mul_nonneg e e; exact Int.mul_nonneg_of_nonpos_of_nonpos e e, ?_⟩
  have e : z * z = ((z.natAbs * z.natAbs : Nat) : Int) := by rw [Int.natCast_mul, Int.natAbs_mul_self']
  have := Nat.mul_le_mul (show z.natAbs ≤ 268435456 by omega) (show z.natAbs ≤ 268435456 by omega)
  omega
/-- The sum of the squares. -/
def sqN (zs : List Int) : Int := dotN zs zs
theorem sqN_take {a : List Int} {j : Nat} (ha : j < a.length) : sqN (a.take (j + 1)) = sqN (a.take j) + a.getD j 0 * a.getD j 0 := dotN_take ha ha
theorem sqN_bound : ∀ (a : List Int), (∀ z ∈ a, Rc z) → 0 ≤ sqN a ∧ sqN a ≤ 72057594037927936 * (a.length : Int)
  | [], _ => by simp [sqN, dotN]
  | x :: r, ha => by
    have h := sqN_bound r (fun z hz => ha z (List.mem_cons_of_mem _ hz))
    have hm := sq_bound (ha x List.mem_cons_self)
    unfold sqN at h ⊢
    simp only [dotN, List.length_cons]
    omega
/-- The root, rounded down. -/
def isq : Nat → Nat
  | 0 => 0
  | n + 1 => if (isq n + 1) * (isq n + 1) ≤ n + 1 then isq n + 1 else isq n
theorem root_isq : ∀ n, Root n (isq n)
  | 0 => by simp [isq, Root]
  | n + 1 => by
    obtain ⟨h1, h2⟩ := root_isq n
    unfold isq
    generalize isq n = r at *
    split
    · rename_i h
      refine ⟨h, ?_⟩
      have : (r + 1) * (r + 1) < (r + 1 + 1) * (r + 1 + 1) := Nat.mul_lt_mul_of_lt_of_le (by omega) (by omega) (by omega)
      omega
    · rename_i h
      exact ⟨by omega, by omega⟩
theorem root_le {n r b : Nat} (h : Root n r) (hn : n ≤ b * b) : r ≤ b := by
  rcases Nat.lt_or_ge b r with e | e
  · have := Nat.mul_le_mul (show b + 1 ≤ r by omega) (show b + 1 ≤ r by omega)
    have h1 := h.1
    have : (b + 1) * (b + 1) = b * b + b + b + 1 := by rw [Nat.add_mul, Nat.mul_add]; omega
    omega
  · exact e
/-- The mean of the squares, rounded down. -/
def mnN (zs : List Int) : Nat := (sqN zs / (zs.length : Int)).toNat
/-- A row's root. -/
def rt (zs : List Int) : Nat := max (isq (mnN zs)) 1
theorem mn_bound {zs : List Int} (h1 : 1 ≤ zs.length) (h : ∀ z ∈ zs, Rc z) : sqN zs / (zs.length : Int) = (mnN zs : Int) ∧ mnN zs ≤ 72057594037927936 := by
  obtain ⟨a, b⟩ := sqN_bound zs h
  have h0 : 0 ≤ sqN zs / (zs.length : Int) := Int.ediv_nonneg a (by omega)
  have h2 : sqN zs / (zs.length : Int) ≤ 72057594037927936 := Int.ediv_le_of_le_mul (by omega) b
  unfold mnN
  omega
theorem rt_bound {zs : List Int} (h1 : 1 ≤ zs.length) (h : ∀ z ∈ zs, Rc z) : 1 ≤ rt zs ∧ rt zs ≤ 268435456 := by
  have := root_le (b := 268435456) (root_isq (mnN zs)) (by have := (mn_bound h1 h).2; omega)
  unfold rt
  omega
def rV (zs : List Int) : Int := if nE zs = 0 then (rt zs : Int) else 0

/-- A number over the root, cut towards 0 behind 6 binary digits. -/
def gt (x : Int) (r : Nat) : Int := (64 * x).tdiv (r : Int)
theorem tdiv_size (x : Int) (r : Nat) (_hr : 1 ≤ r) : (x.tdiv (r : Int)).natAbs ≤ x.natAbs := by
  rw [Int.natAbs_tdiv]
  exact Nat.div_le_self _ _
theorem gt_bound {x : Int} {r : Nat} (hx : Rc x) (hr : 1 ≤ r) : -17179869184 ≤ gt x r ∧ gt x r ≤ 17179869184 := by
  have := tdiv_size (64 * x) r hr
  unfold gt
  obtain ⟨a, b⟩ := hx
  omega
theorem gt_neg (x : Int) (r : Nat) : gt (-x) r = - gt x r := by
  unfold gt
  rw [Int.mul_neg, Int.neg_tdiv]
/-- What becomes of a number, ahead of narrowing. -/
def gN (x : Int) (r : Nat) (g : Int) : Int := near (gt x r * g) 64
theorem gm_bound {x : Int} {r : Nat} {g : Int} (hx : Rc x) (hr : 1 ≤ r) (hg : C8 g) : -2199023255552 ≤ gt x r * g ∧ gt x r * g ≤ 2199023255552 := by
  obtain ⟨a, b⟩ := gt_bound hx hr
  obtain ⟨c, d⟩ := hg
  generalize gt x r = t at *
  have e : ((t * g).natAbs : Int) = ((t.natAbs * g.natAbs : Nat) : Int) := by rw [Int.natAbs_mul]
  have := Nat.mul_le_mul (show t.natAbs ≤ 17179869184 by omega) (show g.natAbs ≤ 128 by omega)
  omega
theorem near_bound (x d : Int) : x / d ≤ near x d ∧ near x d ≤ x / d + 1 := by unfold near; split <;> omega
theorem gN_bound {x : Int} {r : Nat} {g : Int} (hx : Rc x) (hr : 1 ≤ r) (hg : C8 g) : -2199023255552 ≤ gN x r g ∧ gN x r g ≤ 2199023255552 := by
  obtain ⟨a, b⟩ := gm_bound hx hr hg
  obtain ⟨c, d⟩ := near_bound (gt x r * g) 64
  unfold gN
  omega

/-- The row of f at 0, 1, .. -/
def mkL (n : Nat) (f : Nat → Int) : List Int := (List.range n).map f
theorem mkL_len (n : Nat) (f : Nat → Int) : (mkL n f).length = n := by simp [mkL]
theorem mkL_succ (n : Nat) (f : Nat → Int) : mkL (n + 1) f = mkL n f ++ [f n] := by simp [mkL, List.range_succ]
theorem mkL_get {n : Nat} {f : Nat → Int} {i : Nat} (h : i < n) : (mkL n f).getD i 0 = f i := by
  rw [List.getD_eq_getElem?_getD]; simp [mkL, h]
theorem mkL_mem {n : Nat} {f : Nat → Int} {z : Int} (h : z ∈ mkL n f) : ∃ i, i < n ∧ z = f i := by
  simp only [mkL, List.mem_map, List.mem_range] at h
  obtain ⟨i, h1, h2⟩ := h
  exact ⟨i, h1, h2.symm⟩
theorem mkL_take {zs : List Int} : mkL zs.length (fun i => zs.getD i 0) = zs := by
  apply List.ext_getElem
  · simp [mkL]
  · intro i h1 h2
    simp [mkL, List.getD_eq_getElem?_getD, List.getElem?_eq_getElem h2]

/-- What Row answers. -/
def roE (zs gs : List Int) : Int := if zs.length ≠ gs.length then 1 else nE zs
def noF (zs gs : List Int) (i : Nat) : Int := clamp (gN (zs.getD i 0) (rt zs) (gs.getD i 0)) (-127) 127
def roL (zs gs : List Int) : List Int := if roE zs gs = 0 then mkL zs.length (noF zs gs) else []
theorem roE_len {zs gs : List Int} (h : zs.length ≠ gs.length) : roE zs gs = 1 := if_pos h
theorem roE_n {zs gs : List Int} (h : zs.length = gs.length) : roE zs gs = nE zs := if_neg (by omega)
theorem roE_zero {zs gs : List Int} (h : roE zs gs = 0) : zs.length = gs.length ∧ nE zs = 0 := by
  unfold roE at h
  split at h
  · cases h
  · exact ⟨by omega, h⟩
theorem roL_bad {zs gs : List Int} (h : roE zs gs ≠ 0) : roL zs gs = [] := if_neg h
theorem roL_ok {zs gs : List Int} (h : roE zs gs = 0) : roL zs gs = mkL zs.length (noF zs gs) := if_pos h
theorem noF_bound (zs gs : List Int) (i : Nat) : -127 ≤ noF zs gs i ∧ noF zs gs i ≤ 127 := clamp_bound _
theorem roL_i8 (zs gs : List Int) : ∀ z ∈ roL zs gs, -127 ≤ z ∧ z ≤ 127 := by
  intro z hz
  unfold roL at hz
  split at hz
  · obtain ⟨i, _, rfl⟩ := mkL_mem hz
    exact noF_bound _ _ _
  · cases hz
theorem roL_len (zs gs : List Int) : (roL zs gs).length ≤ 64 := by
  unfold roL
  split
  · rename_i h
    rw [mkL_len]
    exact (nE_zero (roE_zero h).2).2.1
  · simp
theorem roL_fit (zs gs : List Int) : ∀ z ∈ roL zs gs, Fit .i8 z := fun z hz => by
  have := roL_i8 zs gs z hz
  exact ⟨by omega, by omega⟩
end Go.Proofs.Ytibbifklnimlcaa
