/-
  beginsStop, heldBack.
-/
import Derived.Test.YtomeoklhjdgaoaaDoorStc
namespace Go.Proofs.YtomeoklhjdgaoaaDoor
open Go.RowKit Go.Lib Go.Maps

/-- Does one of the first i texts begin so? -/
def bgB (T : List (List UInt8)) (s : List UInt8) : Nat → Bool
  | 0 => false
  | i + 1 => bgB T s i || Lib.hasPrefix (tX T i) s
theorem bgB_iff {T : List (List UInt8)} {s : List UInt8} : ∀ {i : Nat}, bgB T s i = true ↔ ∃ j, j < i ∧ Lib.hasPrefix (tX T j) s = true
  | 0 => ⟨fun h => (by cases h), fun ⟨_, h, _⟩ => absurd h (Nat.not_lt_zero _)⟩
  | i + 1 => by
    unfold bgB
    rw [Bool.or_eq_true, bgB_iff]
    constructor
    · rintro (⟨j, hj, h⟩ | h)
      · exact ⟨j, by omega, h⟩
      · exact ⟨i, Nat.lt_succ_self _, h⟩
    · rintro ⟨j, hj, h⟩
      by_cases e : j = i
      · subst e; exact .inr h
      · exact .inl ⟨j, by omega, h⟩
theorem bgB_hit {T : List (List UInt8)} {s : List UInt8} {i n : Nat} (hi : i < n) (h : Lib.hasPrefix (tX T i) s = true) : bgB T s n = true := bgB_iff.2 ⟨i, hi, h⟩
theorem bgB_miss {T : List (List UInt8)} {s : List UInt8} {n : Nat} (h : ∀ j, j < n → Lib.hasPrefix (tX T j) s = false) : bgB T s n = false := by
  cases e : bgB T s n with
  | false => rfl
  | true =>
    obtain ⟨j, hj, h2⟩ := bgB_iff.1 e
    rw [h j hj] at h2
    cases h2
theorem pre_iff (x s : List UInt8) : Lib.hasPrefix x s = true ↔ s.length ≤ x.length ∧ x.take s.length = s := by
  unfold Lib.hasPrefix
  rw [List.isPrefixOf_iff_prefix]
  constructor
  · rintro ⟨r, rfl⟩
    exact ⟨by rw [List.length_append]; omega, by rw [List.take_left]⟩
  · rintro ⟨_, h⟩
    exact ⟨x.drop s.length, (congrArg (fun a => a ++ x.drop s.length) h).symm.trans (List.take_append_drop _ _)⟩
/-- Where no stop text stands, what may go on is told by the three questions. -/
theorem cnd_three {T : List (List UInt8)} {l : List UInt8} (hN : NoCut T l) (k : Nat) : cnd T (l.drop k) = (!(l.drop k).isEmpty && (hfL (l.drop k) || bgB T (l.drop k) T.length)) := by
  by_cases h0 : l.drop k = []
  · rw [h0]; rfl
  · have h1 : (l.drop k).isEmpty = false := by cases h : l.drop k with | nil => exact absurd h h0 | cons _ _ => rfl
    rw [h1, Bool.not_false, Bool.true_and, Bool.eq_iff_iff, cnd_iff, Bool.or_eq_true, bgB_iff]
    constructor
    · rintro ⟨_, h | ⟨j, hj, h2, h3⟩⟩
      · exact .inl h
      · exact .inr ⟨j, hj, (pre_iff _ _).2 ⟨by omega, h3⟩⟩
    · rintro (h | ⟨j, hj, h2⟩)
      · exact ⟨h0, .inl h⟩
      · obtain ⟨h3, h4⟩ := (pre_iff _ _).1 h2
        refine ⟨h0, .inr ⟨j, hj, ?_, h4⟩⟩
        by_cases he : (l.drop k).length = (tX T j).length
        · exfalso
          rw [he, List.take_length] at h4
          refine bst_none.1 (hN l.length) j hj ⟨by rw [← he, List.length_drop]; omega, ?_⟩
          have hk : l.length - (tX T j).length = k := by
            have hp := List.length_pos_iff.2 h0
            rw [← he, List.length_drop]
            rw [List.length_drop] at hp
            omega
          rw [hk, ← he, List.take_length, h4]
        · omega
set_option maxHeartbeats 4000000 in
set_option maxRecDepth 100000 in
theorem beginsStop_any {p : Nat → Prop} (T : List (List UInt8)) (l : List UInt8) (v : Value) (w : World) (hR : TxR p w v T) :
    Calls Tryd.prog 57 #[v, sV l] w fun e w' => e = .returned (.bool (bgB T l T.length)) ∧ w' = w := by
  obtain ⟨ao, cap, rfl⟩ := hR.shape
  have HR : Hid (TxR p w (.slice ao T.length cap) T) := hR
  have h20 := hR.len
  have HM : Hid ((∀ j, j < T.length → Lib.hasPrefix (tX T j) l = false) → bgB T l T.length = false) := fun h => bgB_miss h
  have HH : Hid (∀ i, i < T.length → Lib.hasPrefix (tX T i) l = true → bgB T l T.length = true) := fun i hi h => bgB_hit hi h
  clear hR
  generalize bgB T l T.length = R at *
  generalize T.length = n at *
  go_enter Tryd.func57, Tryd.ntmps57
  go_wp2
  go_loopw [9] (fun iv wr => ∃ i : Nat, i ≤ n ∧ iv = zV i ∧ wr = w ∧ Hid (∀ j, j < i → Lib.hasPrefix (tX T j) l = false)) (fun iv _ => n - (RowKit.intOf iv).toNat)
  case atStart => exact ⟨0, Nat.zero_le _, rfl, rfl, fun j hj => absurd hj (Nat.not_lt_zero _)⟩
  case round =>
    obtain ⟨i, hi, rfl, hWW, HQ⟩ := hrel
    have hWW' := hWW.symm
    subst hWW'
    clear hWW
    by_cases hlt : i < n
    · have hlt' : (i : Int) < (n : Int) := by omega
      obtain ⟨b, off, rfl, _, hbl, hcell⟩ := HR.out.cells.2.2 (by omega)
      have c0 := hcell i hlt
      clear hcell
      have HC := show Hid _ from Tryd.strings_HasPrefix ⟨(tX T i).toArray⟩ ⟨l.toArray⟩ w
      rw [data_l, data_l] at HC
      have HHi : Hid (Lib.hasPrefix (tX T i) l = true → R = true) := HH.out i hlt
      have HQi : Hid (Lib.hasPrefix (tX T i) l = false → ∀ j, j < i + 1 → Lib.hasPrefix (tX T j) l = false) := fun h j hj => by
        by_cases e : j = i
        · rw [e]; exact h
        · exact HQ.out j (by omega)
      clear HH HQ
      generalize Lib.hasPrefix (tX T i) l = q at *
      go_wp2_with fail
      refine Calls.mono HC.out ?_
      rintro e' W1 ⟨rfl, hW⟩
      have hW' := hW.symm
      subst hW'
      clear hW HC
      cases q with
      | true =>
        have HR' := show Hid _ from HHi.out rfl
        go_wp2
        go_ret
        exact ⟨by rw [HR'.out]; rfl, rfl⟩
      | false =>
        have HQ2 := show Hid _ from HQi.out rfl
        go_wp2
        go_roundw
        case rel => exact ⟨i + 1, by omega, by go_num, by first | rfl | trivial, HQ2⟩
        case measure => simp [RowKit.intOf]; omega
    · have hlt' : ¬ (i : Int) < (n : Int) := by omega
      have hin : i = n := by omega
      subst hin
      have hRf : Hid (R = false) := HM.out HQ.out
      clear HH HM HQ
      go_wp2
      go_ret
      exact ⟨by rw [hRf.out]; rfl, rfl⟩
set_option maxHeartbeats 1000000 in
theorem strClone_any (l : List UInt8) (w : World) (hl : l.length ≤ 281474976710656) :
    Calls Tryd.prog 58 #[sV l] w fun e w' => e = .returned (sV l) ∧ Fresh w w' := by
  have HC := show Hid _ from Tryd.stringslite_Clone ⟨l.toArray⟩ w (by rw [len_l]; exact hl)
  go_enter Tryd.func58, Tryd.ntmps58
  go_wp2_with fail
  refine Calls.mono HC.out ?_
  rintro e' W1 ⟨rfl, hb⟩
  clear HC
  go_wp2
  go_ret
  exact ⟨rfl, fresh_below hb⟩
end Go.Proofs.YtomeoklhjdgaoaaDoor
