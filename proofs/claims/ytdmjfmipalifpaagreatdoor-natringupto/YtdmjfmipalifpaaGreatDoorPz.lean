/-
  Parse: the number whose text is given.
-/
import Derived.Test.YtdmjfmipalifpaaGreatDoorPy
import Derived.Test.YtdmjfmipalifpaaGreatDoorTa
namespace Go.Proofs.YtdmjfmipalifpaaGreatDoor
open Go.RowKit

/-- Is a text one of no number? -/
abbrev noText (l : List UInt8) : Prop := l = [] ∨ tE l < l.length
/-- What Parse answers: the number, the place, the error. -/
def prN (l : List UInt8) : Nat := if noText l then 0 else fitN (dn l)
def prP (l : List UInt8) : Int := if noText l then tE l else 0
def prE (l : List UInt8) : Int := if noText l then 43 else fitE (dn l)
theorem dn_ge (l : List UInt8) (h : Ds l) (hl : l ≠ []) (h0 : l.head? ≠ some 48) : 10 ^ (l.length - 1) ≤ dn l := by
  cases l with
  | nil => exact absurd rfl hl
  | cons b r =>
    have hb := (isD_iff b).1 (h b (by simp))
    have hb0 : b.toNat ≠ 48 := fun e => h0 (by
      have : b = 48 := by rw [← UInt8.toNat_inj]; exact e
      rw [this]; rfl)
    show 10 ^ (r.length + 1 - 1) ≤ dna (0 * 10 + (b.toNat - 48)) r
    rw [dna_eq, Nat.add_sub_cancel]
    have := Nat.le_mul_of_pos_left (10 ^ r.length) (show 0 < 0 * 10 + (b.toNat - 48) by omega)
    omega
theorem big_pow {e k m : Nat} (h : 2 ^ e ≤ 10 ^ k) (hm : k ≤ m) : 2 ^ e ≤ 10 ^ m := Nat.le_trans h (Nat.pow_le_pow_right (by decide) hm)
theorem dn_big (l : List UInt8) (h : ¬ noText l) (hn : 19729 < l.length) : fitN (dn l) = 0 ∧ fitE (dn l) = 41 := by
  have hl : l ≠ [] := fun e => h (.inl e)
  obtain ⟨h1, h2⟩ := tE_all (fun e => h (.inr e))
  have h3 := dn_ge l h1 hl (by
    rcases h2 with h2 | h2
    · exact h2
    · rw [h2] at hn; simp at hn)
  have h4 : 19729 ≤ l.length - 1 := by omega
  have h5 := Nat.le_trans (big_pow big_most h4) h3
  refine fit_out (Nat.lt_of_not_le fun h6 => ?_)
  have h7 := (bl_le_iff _ _).1 h6
  exact absurd (Nat.lt_of_lt_of_le h7 h5) (Nat.lt_irrefl _)

theorem not_empty {s : ByteArray} (h : 1 ≤ s.size) : s.toList.isEmpty = false := by
  rw [Lib.toList_data]
  rw [Lib.size_eq] at h
  cases hl : s.data.toList with
  | nil => rw [hl] at h; exact absurd h (by decide)
  | cons => rfl

set_option maxHeartbeats 1000000 in
set_option maxRecDepth 100000 in
theorem parse_any (s : ByteArray) (w : World) (hs : s.size ≤ 9223372036854775807) :
    Calls Tryz.prog 9 #[.string s] w fun e w' => ∃ v', e = .returned (.tuple #[.agg #[v'], .int .i64 (prP s.data.toList), .int .i64 (prE s.data.toList)]) ∧ (Nm w' v' (prN s.data.toList) ∧ Fresh w w') := by
  have ht := fun W => textEnd_any s W hs
  have HSZ : Hid (s.size = s.data.toList.length) := Lib.size_eq s
  have htl := tE_le s.data.toList
  rw [← HSZ.out] at htl
  by_cases hno : noText s.data.toList
  · rw [show prP s.data.toList = tE s.data.toList from if_pos hno, show prE s.data.toList = 43 from if_pos hno, show prN s.data.toList = 0 from if_pos hno]
    have hc : s.size = 0 ∨ tE s.data.toList < s.size := by
      rcases hno with h | h
      · exact .inl (by rw [HSZ.out, h]; rfl)
      · exact .inr (by rw [HSZ.out]; exact h)
    clear hno HSZ
    generalize tE s.data.toList = T at *
    rcases hc with hc | hc
    · obtain rfl : s = ⟨#[]⟩ := ByteArray.size_eq_zero_iff.1 hc
      go_enter Tryz.func9, Tryz.ntmps9
      go_wp2_with fail
      refine (ht _).mono ?_
      rintro e w1 ⟨rfl, rfl⟩
      go_wp2
      have r0 := agg1 w (.slice none 0 0) 26
      exact bodyPost_ret (v := .tuple #[.agg #[.slice none 0 0], .int .i64 (T : Int), .int .i64 43]) (by simp [results, Tryz.results9, go_sem, r0]) rfl ⟨_, rfl, nm_zero _, (Kept.refl _ _).alloc _⟩
    · have hem : s.toList.isEmpty = false := not_empty (by omega)
      go_enter Tryz.func9, Tryz.ntmps9
      go_wp2_with fail
      refine (ht _).mono ?_
      rintro e w1 ⟨rfl, rfl⟩
      go_wp2
      have r0 := agg1 w (.slice none 0 0) 26
      exact bodyPost_ret (v := .tuple #[.agg #[.slice none 0 0], .int .i64 (T : Int), .int .i64 43]) (by simp [results, Tryz.results9, go_sem, r0]) rfl ⟨_, rfl, nm_zero _, (Kept.refl _ _).alloc _⟩
  · rw [show prP s.data.toList = 0 from if_neg hno, show prE s.data.toList = fitE (dn s.data.toList) from if_neg hno, show prN s.data.toList = fitN (dn s.data.toList) from if_neg hno]
    have hl : s.data.toList ≠ [] := fun e => hno (.inl e)
    have h1 : 1 ≤ s.size := by
      rcases Nat.eq_zero_or_pos s.size with e | e
      · exact absurd (List.length_eq_zero_iff.1 (HSZ.out.symm.trans e)) hl
      · exact e
    have hem : s.toList.isEmpty = false := not_empty h1
    have hte : ¬ tE s.data.toList < s.size := fun e => hno (.inr (by rw [← HSZ.out]; exact e))
    by_cases hbig : 19729 < s.size
    · obtain ⟨e1, e2⟩ := dn_big _ hno (by rw [← HSZ.out]; exact hbig)
      rw [e1, e2]
      clear hno HSZ hl e1 e2
      generalize tE s.data.toList = T at *
      go_enter Tryz.func9, Tryz.ntmps9
      go_wp2_with fail
      refine (ht _).mono ?_
      rintro e w1 ⟨rfl, rfl⟩
      go_wp2
      have r0 := agg1 w (.slice none 0 0) 26
      exact bodyPost_ret (v := .tuple #[.agg #[.slice none 0 0], .int .i64 0, .int .i64 41]) (by simp [results, Tryz.results9, go_sem, r0]) rfl ⟨_, rfl, nm_zero _, (Kept.refl _ _).alloc _⟩
    · have hdn := fun W => digitsNumber_any s W (by omega) h1 (tE_all (fun e => hno (.inr e))).1
      clear hno HSZ hl
      generalize tE s.data.toList = T at *
      generalize dn s.data.toList = N at *
      go_enter Tryz.func9, Tryz.ntmps9
      go_wp2_with fail
      refine (ht _).mono ?_
      rintro e w1 ⟨rfl, rfl⟩
      go_wp2_with fail
      refine (hdn _).mono ?_
      rintro e w2 ⟨v2, rfl, hN2, hF2⟩
      have hnum := number_any v2 N w2 hN2
      obtain ⟨va, vn, vc, rfl⟩ := hN2.shape
      have hA : Ax w (.slice none 0 0) w2 := (Ax.made w _).next hF2
      clear hN2 hF2
      go_wp2_with fail
      refine hnum.mono ?_
      rintro e w3 ⟨v3, rfl, hN3, hF3⟩
      obtain ⟨va, vn, vc, rfl⟩ := hN3.shape
      have hA3 := hA.next hF3
      have hA4 := hA3.next ((Kept.refl _ w3).alloc (.cells #[.slice va vn vc] 26))
      have hN4 := hN3.fresh ((Kept.refl _ w3).alloc (.cells #[.slice va vn vc] 26))
      have c4 := hA4.c
      have f4 := hA4.f
      have r6 := agg1 w3 (.slice va vn vc) 26
      obtain ⟨r0, hN5, hF5⟩ := hA4.store (.slice va vn vc) hN4
      go_wp2
      exact bodyPost_ret (v := .tuple #[.agg #[.slice va vn vc], .int .i64 0, .int .i64 (fitE N)]) (by simp [results, Tryz.results9, go_sem, r0]) rfl ⟨_, rfl, hN5, hF5⟩
end Go.Proofs.YtdmjfmipalifpaaGreatDoor
