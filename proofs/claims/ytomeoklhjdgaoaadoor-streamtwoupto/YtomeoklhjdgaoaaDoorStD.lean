/-
  What the model's decoder says at a place of a text; which texts are valid.
-/
import Derived.Test.YtomeoklhjdgaoaaDoorStL
import Derived.Lib.ValidU
import Derived.Lib.Strings
namespace Go.Proofs.YtomeoklhjdgaoaaDoor
open Go.Lib

theorem getB (l : List UInt8) (i : Nat) : (⟨l.toArray⟩ : ByteArray).get! i = l.getD i 0 := by
  show l.toArray[i]! = _
  rw [List.getElem!_toArray]
  rw [List.getD_eq_getElem?_getD]
  cases h : l[i]? with
  | none => simp [List.getElem!_eq_getElem?_getD, h]; rfl
  | some x => simp [List.getElem!_eq_getElem?_getD, h]
theorem sizB (l : List UInt8) : (⟨l.toArray⟩ : ByteArray).size = l.length := by rw [Lib.size_eq]
theorem bN_drop (l : List UInt8) (i k : Nat) : bN (l.drop i) k = bN l (i + k) := by
  unfold bN
  rw [List.getD_eq_getElem?_getD, List.getElem?_drop, ← List.getD_eq_getElem?_getD]
theorem dec_at (l : List UInt8) (i : Nat) : Utf8.decode ⟨l.toArray⟩ i = decodeN (l.drop i).length (bN (l.drop i) 0) (bN (l.drop i) 1) (bN (l.drop i) 2) (bN (l.drop i) 3) := by
  rw [decode_at, sizB, getB, getB, getB, getB, bN_drop, bN_drop, bN_drop, bN_drop, List.length_drop]
  rfl
theorem dec_bad {l : List UInt8} {i : Nat} (hi : i < l.length) (h : chW (l.drop i) = 0) : Utf8.decode ⟨l.toArray⟩ i = (65533, 1) := by
  rw [dec_at]
  exact dec_none _ _ _ _ _ (by rw [List.length_drop]; omega) (bN_lt _ _) (bN_lt _ _) (bN_lt _ _) (bN_lt _ _) h
theorem byte_of (c : UInt8) : ((c.toNat : Nat) : Int).toNat.toUInt8 = c := by rw [Int.toNat_natCast]; exact UInt8.ofNat_toNat
theorem take_bytes (l : List UInt8) (m : Nat) (h4 : m ≤ 4) (hm : m ≤ l.length) : ([((bN l 0 : Nat) : Int), (bN l 1 : Nat), (bN l 2 : Nat), (bN l 3 : Nat)].take m).map (fun x => x.toNat.toUInt8) = l.take m := by
  rw [List.map_take]
  simp only [List.map_cons, List.map_nil, byte_of]
  refine List.ext_getElem? fun k => ?_
  rw [List.getElem?_take, List.getElem?_take]
  split
  · have hk : k < 4 := by omega
    have e : l[k]? = some (l.getD k 0) := by rw [List.getD_eq_getElem?_getD, List.getElem?_eq_getElem (by omega)]; rfl
    rw [e]
    match k, hk with
    | 0, _ => rfl
    | 1, _ => rfl
    | 2, _ => rfl
    | 3, _ => rfl
  · rfl
theorem dec_good {l : List UInt8} {i : Nat} (h : chW (l.drop i) ≠ 0) : (Utf8.decode ⟨l.toArray⟩ i).2 = chW (l.drop i) ∧ encodeRune (Utf8.decode ⟨l.toArray⟩ i).1 = (l.drop i).take (chW (l.drop i)) := by
  rw [dec_at]
  obtain ⟨h1, h2⟩ := dec_some _ _ _ _ _ (bN_lt (l.drop i) 0) (bN_lt (l.drop i) 1) (bN_lt (l.drop i) 2) (bN_lt (l.drop i) 3) h
  refine ⟨h1, ?_⟩
  unfold encodeRune
  rw [h2]
  exact take_bytes _ _ (chW_le _).2 (chW_le _).1
theorem enc_bad : encodeRune ((65533 : Nat) : Int) = sgn := by decide
/-- A character's sign and its width: of none the sign has width 1. -/
theorem dec_one {l : List UInt8} {i : Nat} (hi : i < l.length) : (Utf8.decode ⟨l.toArray⟩ i = (65533, 1)) ↔ chW (l.drop i) = 0 := by
  constructor
  · intro h
    by_cases hc : chW (l.drop i) = 0
    · exact hc
    · obtain ⟨h1, h2⟩ := dec_good hc
      rw [h] at h1 h2
      have e : encodeRune ((65533 : Nat) : Int) = (l.drop i).take 1 := h2.trans (congrArg (fun k => (l.drop i).take k) h1.symm)
      rw [enc_bad] at e
      have := congrArg List.length e
      rw [List.length_take] at this
      simp at this
      omega
  · exact dec_bad hi
theorem validG : ∀ (n : Nat) (l : List UInt8), l.length ≤ n → (validGoD n l = true ↔ clL l = l) := by
  intro n
  induction n with
  | zero =>
    intro l h
    have : l = [] := List.length_eq_zero_iff.1 (by omega)
    subst this
    exact ⟨fun _ => rfl, fun _ => rfl⟩
  | succ n ih =>
    intro l h
    unfold validGoD
    split
    · rename_i e; subst e; exact ⟨fun _ => rfl, fun _ => rfl⟩
    · rename_i e
      have hl := List.length_pos_iff.2 e
      have h1 := dec_one (l := l) (i := 0) hl
      rw [List.drop_zero] at h1
      have hd : decodeL l = Utf8.decode ⟨l.toArray⟩ 0 := rfl
      split
      · rename_i e2
        refine ⟨fun e3 => absurd e3 (by decide), fun e3 => ?_⟩
        have h2 := (clL_own e).1 e3
        exact absurd (h1.1 (by rw [← hd]; exact Prod.ext e2.1 e2.2)) h2.1
      · rename_i e2
        have hc : chW l ≠ 0 := fun hc => e2 (by rw [hd, h1.2 hc]; exact ⟨rfl, rfl⟩)
        have h3 := dec_good (l := l) (i := 0) (by rw [List.drop_zero]; exact hc)
        rw [List.drop_zero] at h3
        rw [hd, h3.1, ih _ (by rw [List.length_drop]; omega), clL_own e]
        exact ⟨fun h => ⟨hc, h⟩, fun h => h.2⟩
theorem valid_iff (l : List UInt8) : validD l = decide (clL l = l) := by
  rw [Bool.eq_iff_iff, decide_eq_true_iff]
  exact validG _ l (Nat.le_refl _)
end Go.Proofs.YtomeoklhjdgaoaaDoor
