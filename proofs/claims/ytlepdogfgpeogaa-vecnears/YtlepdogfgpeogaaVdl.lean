/-
  Pack: the numbers of its two loops.
-/
import Derived.Test.YtlepdogfgpeogaaVdk
namespace Go.Proofs.Ytlepdogfgpeogaa
open Go.RowKit Go.Lib Go.Maps

/-- The shift of the group at j. -/
def shAt (l : List Int) (g j : Nat) : Nat := shN ((l.drop (j * g)).take g)
theorem pS_get {l : List Int} {g j : Nat} (h : j < (l.length + g - 1) / g) : (pS l g).getD j 0 = (shAt l g j : Int) := by
  rw [List.getD_eq_getElem?_getD]
  simp [pS, shAt, h]
theorem pS_take {l : List Int} {g j : Nat} (h : j < (l.length + g - 1) / g) : (pS l g).take (j + 1) = (pS l g).take j ++ [(shAt l g j : Int)] := by
  rw [take_snocD (by rw [pS_length]; exact h), pS_get h]
theorem shAt_le {l : List Int} (hl : ∀ y ∈ l, -128 ≤ y ∧ y ≤ 127) (g j : Nat) : shAt l g j ≤ 5 := shN_le fun y hy => hl y (List.mem_of_mem_drop (List.mem_of_mem_take hy))
theorem pS_byte {l : List Int} (hl : ∀ y ∈ l, -128 ≤ y ∧ y ≤ 127) (g : Nat) : ∀ z ∈ pS l g, 0 ≤ z ∧ z ≤ 255 := fun z hz => by
  obtain ⟨j, _, rfl⟩ := List.mem_map.1 hz
  have := shAt_le hl g j
  unfold shAt at this
  exact ⟨by omega, by show ((shN _ : Nat) : Int) ≤ 255; omega⟩
/-- Where a group lies. -/
theorem group_at {n g j : Nat} (hg : 1 ≤ g) (h : j < (n + g - 1) / g) : j * g < n := by
  have h1 : (j + 1) * g ≤ (n + g - 1) / g * g := Nat.mul_le_mul_right g h
  have h2 := Nat.div_mul_le_self (n + g - 1) g
  rw [Nat.add_mul, Nat.one_mul] at h1
  omega
theorem group_of {n g i : Nat} (hg : 1 ≤ g) (h : i < n) : i / g < (n + g - 1) / g := by
  rw [Nat.div_lt_iff_lt_mul hg]
  have h1 := Nat.div_add_mod (n + g - 1) g
  have h2 := Nat.mod_lt (n + g - 1) hg
  rw [Nat.mul_comm] at h1
  omega
theorem take_short {l : List Int} {a g m : Nat} (hm : m = min g (l.length - a)) : (l.drop a).take m = (l.drop a).take g := by
  rw [hm]
  rcases Nat.le_total g (l.length - a) with e | e
  · rw [Nat.min_eq_left e]
  · rw [Nat.min_eq_right e, List.take_of_length_le (by rw [List.length_drop]; exact Nat.le_refl _), List.take_of_length_le (by rw [List.length_drop]; exact e)]
/-- A number of a group has room. -/
theorem pF_room {l : List Int} (hl : ∀ y ∈ l, -128 ≤ y ∧ y ≤ 127) {g i : Nat} (hg : 1 ≤ g) (hi : i < l.length) : -7 ≤ rdQ (l.getD i 0) (shAt l g (i / g) : Int) ∧ rdQ (l.getD i 0) (shAt l g (i / g) : Int) ≤ 7 := by
  have h1 := Nat.div_add_mod i g
  have h2 := Nat.mod_lt i hg
  have h3 : i / g * g + i % g = i := by rw [Nat.mul_comm]; exact h1
  have hm : l.getD i 0 ∈ (l.drop (i / g * g)).take g := by
    have e : l.getD i 0 = (l.drop (i / g * g)).getD (i % g) 0 := by
      rw [List.getD_eq_getElem?_getD, List.getD_eq_getElem?_getD, List.getElem?_drop, h3]
    rw [e, List.getD_eq_getElem?_getD, ← List.getElem?_take_of_lt h2, List.getElem?_eq_getElem (by rw [List.length_take, List.length_drop]; omega)]
    exact List.getElem_mem _
  have := (shN_is (l := (l.drop (i / g * g)).take g) fun y hy => hl y (List.mem_of_mem_drop (List.mem_of_mem_take hy))).2.1 _ hm
  exact of_decide_eq_true this
theorem pF_eq (l : List Int) (g i : Nat) : pF l g i = rdQ (l.getD i 0) (shAt l g (i / g) : Int) % 16 := rfl
/-- A small number's 4 bits. -/
theorem low4 {q : Int} (h : -7 ≤ q ∧ q ≤ 7) : bits .and .u8 (IntKind.u8.wrap q) 15 = q % 16 := by
  have : ∀ m : Fin 15, bits .and .u8 (IntKind.u8.wrap (((m : Nat) : Int) - 7)) 15 = (((m : Nat) : Int) - 7) % 16 := by decide +kernel
  have := this ⟨(q + 7).toNat, by omega⟩
  rwa [show (((q + 7).toNat : Nat) : Int) - 7 = q by omega] at this
theorem or_low {f : Int} (h : 0 ≤ f ∧ f ≤ 15) : bits .or .u8 0 f = f := by
  have : ∀ m : Fin 16, bits .or .u8 0 ((m : Nat) : Int) = ((m : Nat) : Int) := by decide +kernel
  have := this ⟨f.toNat, by omega⟩
  rwa [show ((f.toNat : Nat) : Int) = f by omega] at this
theorem or_high {a f : Int} (ha : 0 ≤ a ∧ a ≤ 15) (h : 0 ≤ f ∧ f ≤ 15) : bits .or .u8 a (16 * f) = a + 16 * f := by
  have : ∀ k m : Fin 16, bits .or .u8 ((k : Nat) : Int) (16 * ((m : Nat) : Int)) = ((k : Nat) : Int) + 16 * ((m : Nat) : Int) := by decide +kernel
  have := this ⟨a.toNat, by omega⟩ ⟨f.toNat, by omega⟩
  rwa [show ((a.toNat : Nat) : Int) = a by omega, show ((f.toNat : Nat) : Int) = f by omega] at this
/-- A half's byte behind the first i numbers. -/
def hvF (l : List Int) (g i k : Nat) : Int := (if 2 * k < i then pF l g (2 * k) else 0) + 16 * (if 2 * k + 1 < i then pF l g (2 * k + 1) else 0)
def hvL (l : List Int) (g i : Nat) : List Int := (List.range ((l.length + 1) / 2)).map (hvF l g i)
theorem hvL_length (l : List Int) (g i : Nat) : (hvL l g i).length = (l.length + 1) / 2 := by simp [hvL]
theorem hvL_get {l : List Int} {g i k : Nat} (h : k < (l.length + 1) / 2) : (hvL l g i).getD k 0 = hvF l g i k := by
  rw [List.getD_eq_getElem?_getD]
  simp [hvL, h]
theorem hvL_zero (l : List Int) (g : Nat) : hvL l g 0 = List.replicate ((l.length + 1) / 2) 0 := by
  apply List.ext_getElem
  · simp [hvL]
  · intro i h1 h2
    simp [hvL, hvF]
theorem hvL_end (l : List Int) (g : Nat) : hvL l g l.length = pH l g := by
  unfold hvL pH
  apply List.map_congr_left
  intro k hk
  have : k < (l.length + 1) / 2 := by simpa using hk
  unfold hvF
  rw [if_pos (by omega)]
theorem hvL_even {l : List Int} {g k : Nat} (_h : 2 * k < l.length) : hvF l g (2 * k) k = 0 ∧ (hvL l g (2 * k)).set k (pF l g (2 * k)) = hvL l g (2 * k + 1) := by
  refine ⟨by unfold hvF; rw [if_neg (by omega), if_neg (by omega)]; rfl, ?_⟩
  apply List.ext_getElem
  · simp [hvL]
  · intro j h1 h2
    rw [List.getElem_set]
    split
    · rename_i e
      subst e
      simp only [hvL, List.getElem_map, List.getElem_range, hvF]
      rw [if_pos (by omega), if_neg (by omega)]
      omega
    · rename_i e
      simp only [hvL, List.getElem_map, List.getElem_range, hvF]
      have e1 : (2 * j < 2 * k) = (2 * j < 2 * k + 1) := by apply propext; omega
      have e2 : (2 * j + 1 < 2 * k) = (2 * j + 1 < 2 * k + 1) := by apply propext; omega
      simp only [e1, e2]
theorem hvL_odd {l : List Int} {g k : Nat} (_h : 2 * k + 1 < l.length) : hvF l g (2 * k + 1) k = pF l g (2 * k) ∧ (hvL l g (2 * k + 1)).set k (pF l g (2 * k) + 16 * pF l g (2 * k + 1)) = hvL l g (2 * k + 2) := by
  refine ⟨by unfold hvF; rw [if_pos (by omega), if_neg (by omega)]; omega, ?_⟩
  apply List.ext_getElem
  · simp [hvL]
  · intro j h1 h2
    rw [List.getElem_set]
    split
    · rename_i e
      subst e
      simp only [hvL, List.getElem_map, List.getElem_range, hvF]
      rw [if_pos (by omega), if_pos (by omega)]
    · rename_i e
      simp only [hvL, List.getElem_map, List.getElem_range, hvF]
      have e1 : (2 * j < 2 * k + 1) = (2 * j < 2 * k + 2) := by apply propext; omega
      have e2 : (2 * j + 1 < 2 * k + 1) = (2 * j + 1 < 2 * k + 2) := by apply propext; omega
      simp only [e1, e2]
/-- What Pack answers of a list and a group. -/
def paE (n : Nat) (g : Int) : Int := if 1048576 < n then 81 else if 1 ≤ g ∧ g ≤ 256 then 0 else 83
end Go.Proofs.Ytlepdogfgpeogaa
