/-
  What is packed and unpacked: how far a number lies from it; packed again it stays.
-/
import Derived.Test.YtlepdogfgpeogaaVdl
namespace Go.Proofs.Ytlepdogfgpeogaa
open Go.RowKit Go.Lib Go.Maps

theorem getD_rc8 {l : List Int} (hl : ∀ y ∈ l, -128 ≤ y ∧ y ≤ 127) (i : Nat) : -128 ≤ l.getD i 0 ∧ l.getD i 0 ≤ 127 := by
  rcases Nat.lt_or_ge i l.length with e | e
  · rw [getD_getElem e]; exact hl _ (List.getElem_mem e)
  · rw [List.getD_eq_getElem?_getD, List.getElem?_eq_none e]; exact ⟨by decide, by decide⟩
/-- A number packed by a shift and unpacked. -/
def kN (x : Int) (s : Nat) : Int := clamp (rdQ x (s : Int) * 2 ^ s) (-127) 127
theorem kN_near {x : Int} (h : -128 ≤ x ∧ x ≤ 127) {s : Nat} (hs : s ≤ 5) (hf : fits x s = true) : (2 * (x - kN x s) ≤ 2 ^ s ∧ -(2 ^ s) ≤ 2 * (x - kN x s) ∧ (s = 0 → x = kN x s)) ∧ fits (kN x s) s = true := by
  have : ∀ (m : Fin 256) (s : Fin 6), fits (((m : Nat) : Int) - 128) (s : Nat) = true → (2 * ((((m : Nat) : Int) - 128) - kN (((m : Nat) : Int) - 128) (s : Nat)) ≤ 2 ^ (s : Nat) ∧ -(2 ^ (s : Nat)) ≤ 2 * ((((m : Nat) : Int) - 128) - kN (((m : Nat) : Int) - 128) (s : Nat)) ∧ ((s : Nat) = 0 → (((m : Nat) : Int) - 128) = kN (((m : Nat) : Int) - 128) (s : Nat))) ∧ fits (kN (((m : Nat) : Int) - 128) (s : Nat)) (s : Nat) = true := by decide +kernel
  have := this ⟨(x + 128).toNat, by omega⟩ ⟨s, by omega⟩
  rw [show (((x + 128).toNat : Nat) : Int) - 128 = x by omega] at this
  exact this hf
theorem kN_bound (x : Int) (s : Nat) : -127 ≤ kN x s ∧ kN x s ≤ 127 := clamp_bound _
theorem kN_again {x : Int} (h : -128 ≤ x ∧ x ≤ 127) {s t : Nat} (hs : s ≤ 5) (ht : t ≤ s) (hf : fits x s = true) (hk : fits (kN x s) t = true) : kN (kN x s) t = kN x s := by
  have : ∀ (m : Fin 256) (s t : Fin 6), (t : Nat) ≤ (s : Nat) → fits (((m : Nat) : Int) - 128) (s : Nat) = true → fits (kN (((m : Nat) : Int) - 128) (s : Nat)) (t : Nat) = true → kN (kN (((m : Nat) : Int) - 128) (s : Nat)) (t : Nat) = kN (((m : Nat) : Int) - 128) (s : Nat) := by decide +kernel
  have := this ⟨(x + 128).toNat, by omega⟩ ⟨s, by omega⟩ ⟨t, by omega⟩ ht
  rw [show (((x + 128).toNat : Nat) : Int) - 128 = x by omega] at this
  exact this hf hk
theorem s4_low {q : Int} (h : -7 ≤ q ∧ q ≤ 7) (z : Int) : s4 (q % 16 + 16 * z) = q := by unfold s4; split <;> omega
theorem pH_get {l : List Int} {g k : Nat} (h : k < (l.length + 1) / 2) : (pH l g).getD k 0 = pF l g (2 * k) + 16 * (if 2 * k + 1 < l.length then pF l g (2 * k + 1) else 0) := by
  rw [List.getD_eq_getElem?_getD]
  simp [pH, h]
theorem fits_at {l : List Int} (hl : ∀ y ∈ l, -128 ≤ y ∧ y ≤ 127) {g i : Nat} (hg : 1 ≤ g) (hi : i < l.length) : fits (l.getD i 0) (shAt l g (i / g)) = true := decide_eq_true (pF_room hl hg hi)
theorem said_q {l : List Int} (hl : ∀ y ∈ l, -128 ≤ y ∧ y ≤ 127) {g i : Nat} (hg : 1 ≤ g) (hi : i < l.length) : s4 (nib (pH l g) i) = rdQ (l.getD i 0) (shAt l g (i / g) : Int) := by
  have hr := pF_room hl hg hi
  unfold nib
  rw [pH_get (by omega)]
  split
  · rename_i e
    rw [show 2 * (i / 2) = i by omega, pF_eq]
    exact s4_low hr _
  · rename_i e
    rw [show 2 * (i / 2) + 1 = i by omega, if_pos hi]
    have hb := pF_bound l g (2 * (i / 2))
    have : (pF l g (2 * (i / 2)) + 16 * pF l g i) / 16 = pF l g i := by omega
    rw [this, pF_eq]
    have := s4_low hr 0
    simpa using this
/-- What is packed and unpacked. -/
def upF (l : List Int) (g i : Nat) : Int := kN (l.getD i 0) (shAt l g (i / g))
def upL (l : List Int) (g : Nat) : List Int := (List.range l.length).map (upF l g)
theorem upL_length (l : List Int) (g : Nat) : (upL l g).length = l.length := by simp [upL]
theorem upL_get {l : List Int} {g i : Nat} (h : i < l.length) : (upL l g).getD i 0 = upF l g i := by
  rw [List.getD_eq_getElem?_getD]
  simp [upL, h]
theorem upL_small (l : List Int) (g : Nat) : ∀ y ∈ upL l g, -128 ≤ y ∧ y ≤ 127 := fun y hy => by
  obtain ⟨i, _, rfl⟩ := List.mem_map.1 hy
  have := kN_bound (l.getD i 0) (shAt l g (i / g))
  unfold upF
  omega
theorem uA_up {l : List Int} (hl : ∀ y ∈ l, -128 ≤ y ∧ y ≤ 127) {g : Nat} (hg : 1 ≤ g) : uA l.length g (pS l g) (pH l g) = upL l g := by
  unfold uA upL
  apply List.map_congr_left
  intro i hi
  have hi' : i < l.length := by simpa using hi
  unfold uN upF kN
  rw [said_q hl hg hi', pS_get (group_of hg hi'), Int.toNat_natCast]
theorem pF_not8 {l : List Int} (hl : ∀ y ∈ l, -128 ≤ y ∧ y ≤ 127) {g i : Nat} (hg : 1 ≤ g) (hi : i < l.length) : pF l g i ≠ 8 := by
  have := pF_room hl hg hi
  rw [pF_eq]
  omega
theorem right_pack {l : List Int} (hl : ∀ y ∈ l, -128 ≤ y ∧ y ≤ 127) {g : Nat} (hg : 1 ≤ g) (hg2 : g ≤ 256) (hn : l.length ≤ 1048576) : rightB (l.length : Int) (g : Int) (pS l g) (pH l g) = true := by
  rw [right_4 (by omega) (by omega) (by
    rw [pS_length, pH_length]
    have e1 : (((l.length + g - 1) / g : Nat) : Int) = ((l.length : Int) + (g : Int) - 1) / (g : Int) := by rw [Int.natCast_ediv]; congr 1; omega
    rw [e1]
    omega)]
  simp only [Bool.and_eq_true, List.all_eq_true, Bool.or_eq_true, decide_eq_true_eq]
  refine ⟨fun z hz => ?_, fun z hz => ?_, ?_⟩
  · obtain ⟨j, _, rfl⟩ := List.mem_map.1 hz
    have := shAt_le hl g j
    unfold shAt at this
    omega
  · obtain ⟨k, hk, rfl⟩ := List.mem_map.1 hz
    have hk' : k < (l.length + 1) / 2 := by simpa using hk
    have b1 := pF_bound l g (2 * k)
    have b2 := pF_bound l g (2 * k + 1)
    have n1 := pF_not8 hl hg (i := 2 * k) (by omega)
    unfold okB
    simp only [Bool.and_eq_true, decide_eq_true_eq]
    split
    · rename_i e
      have n2 := pF_not8 hl hg e
      exact ⟨by omega, by omega⟩
    · exact ⟨by omega, by omega⟩
  · rcases Nat.mod_two_eq_zero_or_one l.length with e | e
    · left; omega
    · right
      have e2 : ((l.length : Int) / 2).toNat = l.length / 2 := by omega
      rw [e2, pH_get (by omega), if_neg (by omega)]
      have b1 := pF_bound l g (2 * (l.length / 2))
      omega
/-- Packed again it stays. -/
theorem up_again {l : List Int} (hl : ∀ y ∈ l, -128 ≤ y ∧ y ≤ 127) {g : Nat} (hg : 1 ≤ g) : upL (upL l g) g = upL l g := by
  apply List.ext_getElem
  · rw [upL_length]
  · intro i h1 h2
    have hi : i < l.length := by rw [upL_length] at h2; exact h2
    have hi2 : i < (upL l g).length := h2
    rw [← getD_getElem h1, ← getD_getElem h2, upL_get hi2]
    show kN ((upL l g).getD i 0) _ = _
    rw [upL_get hi]
    have hsl : shAt (upL l g) g (i / g) ≤ shAt l g (i / g) := by
      have his := shN_is (l := ((upL l g).drop (i / g * g)).take g) fun y hy => upL_small l g y (List.mem_of_mem_drop (List.mem_of_mem_take hy))
      rcases Nat.lt_or_ge (shAt l g (i / g)) (shAt (upL l g) g (i / g)) with e | e
      · exfalso
        obtain ⟨y, hy, hf⟩ := his.2.2 _ e
        obtain ⟨r, hr, rfl⟩ := List.getElem_of_mem hy
        have hr' : r < g ∧ i / g * g + r < l.length := by
          rw [List.length_take, List.length_drop, upL_length] at hr
          omega
        have e1 : ((((upL l g).drop (i / g * g)).take g))[r] = upF l g (i / g * g + r) := by
          rw [List.getElem_take, List.getElem_drop, ← getD_getElem (by rw [upL_length]; exact hr'.2), upL_get hr'.2]
        rw [e1] at hf
        unfold upF at hf
        have e2 : (i / g * g + r) / g = i / g := by
          rw [Nat.add_comm, Nat.add_mul_div_right _ _ hg, Nat.div_eq_of_lt hr'.1, Nat.zero_add]
        rw [e2] at hf
        have hf2 := fits_at hl hg hr'.2
        rw [e2] at hf2
        have := (kN_near (getD_rc8 hl _) (shAt_le hl g _) hf2).2
        rw [this] at hf
        cases hf
      · exact e
    have hfk := fits_at (upL_small l g) hg hi2
    rw [upL_get hi] at hfk
    exact kN_again (getD_rc8 hl i) (shAt_le hl g _) hsl (fits_at hl hg hi) hfk
end Go.Proofs.Ytlepdogfgpeogaa
