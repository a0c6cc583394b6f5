/-
  The program's MulDiv.
-/
import Derived.Test.YtomlkdahinemmaaDoorMu
import Derived.Test.YtomlkdahinemmaaDoorDv
namespace Go.Proofs.YtomlkdahinemmaaDoor
open Go.RowKit

/-- The size of a b over d, rounded away from 0 where it is below 0. -/
def mdQ (s : Bool) (P d : Nat) : Nat := if s = true ∧ 0 < P % d then P / d + 1 else P / d
def mdV (a b d : Int) : Int := if d < 1 then 0 else sgnQ (below a b) (mdQ (below a b) (a.natAbs * b.natAbs) d.toNat)
def mdE (a b d : Int) : Int := if d < 1 then 21 else if sgnB (below a b) (mdQ (below a b) (a.natAbs * b.natAbs) d.toNat) = true then 0 else 23
theorem md_great {s : Bool} {P d : Nat} (h : 9223372036854775808 < P / d) : sgnQ s (mdQ s P d) = 0 ∧ sgnB s (mdQ s P d) = false := by
  have hq : 9223372036854775808 < mdQ s P d := by unfold mdQ; split <;> omega
  generalize mdQ s P d = Q at *
  unfold sgnQ sgnB
  cases s
  · exact ⟨by rw [if_neg (by decide), if_neg (by omega)], by rw [if_neg (by decide)]; exact decide_eq_false (by omega)⟩
  · exact ⟨by rw [if_pos rfl, if_neg (by omega)], by rw [if_pos rfl]; exact decide_eq_false (by omega)⟩
theorem sgn_none {s : Bool} {n : Nat} (h : sgnB s n = false) : sgnQ s n = 0 := by
  unfold sgnB at h
  unfold sgnQ
  cases s
  · rw [if_neg (by decide)] at h ⊢
    rw [if_neg (of_decide_eq_false h)]
  · rw [if_pos rfl] at h ⊢
    rw [if_neg (of_decide_eq_false h)]

theorem drew_of (w : World) (n : Nat) : Drew w (w.drewN n) := ⟨n, rfl⟩

set_option maxHeartbeats 1000000 in
set_option maxRecDepth 100000 in
theorem mulDiv_any (a b d : Int) (w : World) (ha : I64 a) (hb : I64 b) (hd : I64 d) :
    Calls Tryd.prog 17 #[.int .i64 a, .int .i64 b, .int .i64 d] w fun e w' => e = .returned (.tuple #[.int .i64 (mdV a b d), .int .i64 (mdE a b d)]) ∧ Drew w w' := by
  by_cases hd1 : d < 1
  · rw [show mdV a b d = 0 from if_pos hd1, show mdE a b d = 21 from if_pos hd1]
    go_enter Tryd.func17, Tryd.ntmps17
    go_wp2
    go_ret2
    exact ⟨rfl, Drew.refl _⟩
  · obtain ⟨D, rfl⟩ : ∃ D : Nat, d = D := ⟨d.toNat, by omega⟩
    have hD0 : 0 < D := by omega
    have hDl : D < 9223372036854775808 := by have := hd.2; omega
    have hp := fun w => product_any a b w ha hb
    have hA : a.natAbs ≤ 9223372036854775808 := by have := ha.1; have := ha.2; omega
    have hB : b.natAbs ≤ 9223372036854775808 := by have := hb.1; have := hb.2; omega
    have hPl : a.natAbs * b.natAbs ≤ 9223372036854775808 * 9223372036854775808 := Nat.mul_le_mul hA hB
    rw [show mdV a b (D : Int) = sgnQ (below a b) (mdQ (below a b) (a.natAbs * b.natAbs) D) by unfold mdV; rw [if_neg hd1, Int.toNat_natCast],
      show mdE a b (D : Int) = if sgnB (below a b) (mdQ (below a b) (a.natAbs * b.natAbs) D) = true then 0 else 23 by unfold mdE; rw [if_neg hd1, Int.toNat_natCast]]
    generalize below a b = S at *
    generalize a.natAbs * b.natAbs = P at *
    obtain ⟨hi, hhi⟩ : ∃ x, x = P / 18446744073709551616 := ⟨_, rfl⟩
    obtain ⟨lo, hlo⟩ : ∃ x, x = P % 18446744073709551616 := ⟨_, rfl⟩
    rw [← hhi, ← hlo] at hp
    have hlol : lo < 18446744073709551616 := by omega
    have hhil : hi < 18446744073709551616 := by omega
    have hPe : hi * 18446744073709551616 + lo = P := by omega
    have hd1' : ¬ (D : Int) < 1 := hd1
    by_cases hg : D ≤ hi
    · have hq : 9223372036854775808 < P / D := by
        have h1 : 18446744073709551616 ≤ P / D := by
          rw [Nat.le_div_iff_mul_le hD0]
          have := Nat.mul_le_mul_left 18446744073709551616 hg
          omega
        omega
      obtain ⟨q1, q2⟩ := md_great (s := S) hq
      rw [q1, q2]
      have hgb : decide ((D : Int) ≤ (hi : Int)) = true := by rw [decide_eq_true_iff]; omega
      clear hhi hlo hPe q1 q2 hq hPl
      go_enter Tryd.func17, Tryd.ntmps17
      go_wp2_with fail
      refine (hp _).mono ?_
      rintro e w1 ⟨rfl, h1⟩
      go_wp2
      go_ret2
      exact ⟨rfl, h1⟩
    · have hdv := fun W => div64_any hi lo D W hlol (by omega) (by omega)
      rw [hPe] at hdv
      clear hhi hlo hPe
      have hgb : ¬ D ≤ hi := hg
      obtain ⟨q, hq⟩ : ∃ x, x = P / D := ⟨_, rfl⟩
      obtain ⟨r, hr⟩ : ∃ x, x = P % D := ⟨_, rfl⟩
      rw [← hq, ← hr] at hdv
      by_cases hgt : 9223372036854775808 < q
      · obtain ⟨q1, q2⟩ := md_great (s := S) (P := P) (d := D) (by omega)
        rw [q1, q2]
        have hgb2 : decide ((9223372036854775808 : Int) < (q : Int)) = true := by rw [decide_eq_true_iff]; omega
        clear hq hr q1 q2 hPl
        go_enter Tryd.func17, Tryd.ntmps17
        go_wp2_with fail
        refine (hp _).mono ?_
        rintro e w1 ⟨rfl, h1⟩
        go_wp2_with fail
        refine (hdv _).mono ?_
        rintro e w2 ⟨rfl, n2, rfl⟩
        go_wp2
        go_ret2
        exact ⟨rfl, h1.trans (drew_of _ _)⟩
      · have hgb2 : decide ((9223372036854775808 : Int) < (q : Int)) = false := by rw [decide_eq_false_iff_not]; omega
        obtain ⟨Q, hQ⟩ : ∃ x, x = mdQ S P D := ⟨_, rfl⟩
        rw [← hQ]
        have hQl : Q < 18446744073709551616 := by rw [hQ]; unfold mdQ; rw [← hq, ← hr]; split <;> omega
        have hsg := fun W => signed_any S Q W hQl
        have hQ2 : S = true ∧ 0 < r ∧ Q = q + 1 ∨ ¬ (S = true ∧ 0 < r) ∧ Q = q := by
          unfold mdQ at hQ
          rw [← hq, ← hr] at hQ
          by_cases h : S = true ∧ 0 < r
          · rw [if_pos h] at hQ; exact .inl ⟨h.1, h.2, hQ⟩
          · rw [if_neg h] at hQ; exact .inr ⟨h, hQ⟩
        obtain ⟨SB, hSB⟩ : ∃ x, x = sgnB S Q := ⟨_, rfl⟩
        obtain ⟨SQ, hSQ⟩ : ∃ x, x = sgnQ S Q := ⟨_, rfl⟩
        have hnone : SB = false → SQ = 0 := fun e => by rw [hSQ]; exact sgn_none (by rw [← hSB]; exact e)
        rw [← hSB, ← hSQ] at hsg
        rw [← hSB, ← hSQ]
        have HNO := show Hid _ from hnone
        clear hq hr hPl hQ hSB hSQ hnone
        go_enter Tryd.func17, Tryd.ntmps17
        go_wp2_with fail
        refine (hp _).mono ?_
        rintro e w1 ⟨rfl, h1⟩
        go_wp2_with fail
        refine (hdv _).mono ?_
        rintro e w2 ⟨rfl, n2, rfl⟩
        have h2 : Drew w (w1.drewN n2) := h1.trans (drew_of _ _)
        generalize w1.drewN n2 = W2 at *
        rcases hQ2 with ⟨rfl, hr0, rfl⟩ | ⟨hno, rfl⟩
        · go_wp2_with fail
          refine (hsg _).mono ?_
          rintro e w3 ⟨rfl, h3⟩
          cases SB
          · have := HNO.out rfl
            subst this
            go_wp2
            go_ret2
            exact ⟨rfl, h2.trans h3⟩
          · go_wp2
            go_ret2
            exact ⟨rfl, h2.trans h3⟩
        · have htest : ∀ W : World, W = W := fun _ => rfl
          cases S
          · go_wp2_with fail
            refine (hsg _).mono ?_
            rintro e w3 ⟨rfl, h3⟩
            cases SB
            · have := HNO.out rfl
              subst this
              go_wp2
              go_ret2
              exact ⟨rfl, h2.trans h3⟩
            · go_wp2
              go_ret2
              exact ⟨rfl, h2.trans h3⟩
          · obtain rfl : r = 0 := by
              rcases Nat.eq_zero_or_pos r with h | h
              · exact h
              · exact absurd ⟨rfl, h⟩ hno
            go_wp2_with fail
            refine (hsg _).mono ?_
            rintro e w3 ⟨rfl, h3⟩
            cases SB
            · have := HNO.out rfl
              subst this
              go_wp2
              go_ret2
              exact ⟨rfl, h2.trans h3⟩
            · go_wp2
              go_ret2
              exact ⟨rfl, h2.trans h3⟩
end Go.Proofs.YtomlkdahinemmaaDoor
