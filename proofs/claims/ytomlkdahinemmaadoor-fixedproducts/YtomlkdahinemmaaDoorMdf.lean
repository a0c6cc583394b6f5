/-
  The document's MulDiv.
-/
import Derived.Test.YtomlkdahinemmaaDoorMde
import Derived.Test.YtomlkdahinemmaaDoorMda
import Derived.Test.YtomlkdahinemmaaDoorFl
import Derived.Deep.DeepCutAuto
import Derived.Deep.CutBlock
namespace Go.Proofs.YtomlkdahinemmaaDoor
open Go.RowKit

set_option maxHeartbeats 400000 in
theorem refSize2_any (x : Int) (w : World) (hx : I64 x) :
    Calls Tryd.prog 31 #[.int .i64 x] w fun e w' => e = .returned (.int .u64 (x.natAbs : Nat)) ∧ w' = w := by
  obtain ⟨x0, x1⟩ := hx
  by_cases h : x < 0
  · have e3 : ((x.natAbs : Nat) : Int) = -(x + 1) + 1 := by omega
    rw [e3]
    clear e3
    go_enter Tryd.func31, Tryd.ntmps31
    go_wp2
    go_ret
    exact ⟨ret_int (by first | rfl | omega), rfl⟩
  · obtain ⟨n, rfl⟩ : ∃ n : Nat, x = (n : Int) := ⟨x.natAbs, by omega⟩
    have e3 : ((n : Int)).natAbs = n := by omega
    rw [e3]
    go_enter Tryd.func31, Tryd.ntmps31
    go_wp2
    go_ret
    exact ⟨rfl, rfl⟩

theorem and_one_u (n : Nat) (h : n < 18446744073709551616) : bits .and .u64 (n : Int) 1 = ((n % 2 : Nat) : Int) := by
  have := bits_and_u64_nat n 1 h (by omega)
  rw [show ((1 : Nat) : Int) = 1 from rfl] at this
  rw [this, Nat.and_one_is_mod]
/-- The quotient so far, in one word, and whether it was greater. -/
theorem md_word {Q q bit : Nat} {g : Bool} (hq : q = Q % 18446744073709551616) (hg : g = decide (18446744073709551616 ≤ Q)) (hb : bit < 2) :
    (g || decide (9223372036854775808 ≤ q)) = decide (18446744073709551616 ≤ 2 * Q + bit) ∧ (q * 2 % 18446744073709551616 + bit) = (2 * Q + bit) % 18446744073709551616 := by
  constructor
  · rw [hg, hq, Bool.eq_iff_iff]
    simp only [Bool.or_eq_true, decide_eq_true_eq]
    omega
  · rw [hq]; omega

set_option maxHeartbeats 2000000 in
set_option maxRecDepth 100000 in
theorem refMulDiv_any (a b d : Int) (w : World) (ha : I64 a) (hb : I64 b) (hd : I64 d) :
    Calls Tryd.prog 18 #[.int .i64 a, .int .i64 b, .int .i64 d] w fun e w' => e = .returned (.tuple #[.int .i64 (mdV a b d), .int .i64 (mdE a b d)]) ∧ Fresh w w' := by
  by_cases hd1 : d < 1
  · rw [show mdV a b d = 0 from if_pos hd1, show mdE a b d = 21 from if_pos hd1]
    go_enter Tryd.func18, Tryd.ntmps18
    go_wp2
    go_ret2
    exact ⟨rfl, Kept.refl _ _⟩
  · obtain ⟨D, rfl⟩ : ∃ D : Nat, d = D := ⟨d.toNat, by omega⟩
    have hD0 : 0 < D := by omega
    have hDl : D < 9223372036854775808 := by have := hd.2; omega
    have sa := fun w => refSize2_any a w ha
    have sb := fun w => refSize2_any b w hb
    have hA : a.natAbs ≤ 9223372036854775808 := by have := ha.1; have := ha.2; omega
    have hB : b.natAbs ≤ 9223372036854775808 := by have := hb.1; have := hb.2; omega
    have hpr := fun w => refProduct_any a.natAbs b.natAbs w (by omega) (by omega)
    have hPl : a.natAbs * b.natAbs ≤ 9223372036854775808 * 9223372036854775808 := Nat.mul_le_mul hA hB
    rw [show mdV a b (D : Int) = sgnQ (below a b) (mdQ (below a b) (a.natAbs * b.natAbs) D) by unfold mdV; rw [if_neg hd1, Int.toNat_natCast],
      show mdE a b (D : Int) = if sgnB (below a b) (mdQ (below a b) (a.natAbs * b.natAbs) D) = true then 0 else 23 by unfold mdE; rw [if_neg hd1, Int.toNat_natCast]]
    have HBL : Hid (below a b = (decide (a < 0) != decide (b < 0))) := rfl
    generalize below a b = SG at *
    generalize a.natAbs = A at *
    generalize b.natAbs = B at *
    obtain ⟨P, hP⟩ : ∃ P, P = A * B := ⟨_, rfl⟩
    rw [← hP] at hpr hPl ⊢
    obtain ⟨RV, hRV⟩ : ∃ x, x = sgnQ SG (mdQ SG P D) := ⟨_, rfl⟩
    obtain ⟨RE, hRE⟩ : ∃ x : Int, x = if sgnB SG (mdQ SG P D) = true then 0 else 23 := ⟨_, rfl⟩
    rw [← hRV, ← hRE]
    have HRV := show Hid _ from hRV
    have HRE := show Hid _ from hRE
    have hPlt : P < 2 ^ 128 := by omega
    have HPL := show Hid _ from hPlt
    clear hP hRV hRE hPl hPlt ha hb hd
    go_enter Tryd.func18, Tryd.ntmps18
    go_wp2_with fail
    refine (sa _).mono ?_
    rintro e w1 ⟨rfl, rfl⟩
    go_wp2_with fail
    refine (sb _).mono ?_
    rintro e w1 ⟨rfl, rfl⟩
    go_wp2_with fail
    refine (hpr _).mono ?_
    rintro e w2 ⟨v2, rfl, ⟨Z, hZ8, hvZ, hZ⟩, hF2⟩
    have hdZ := hZ.dg
    obtain ⟨za, zc, rfl, _, _, hzc, _⟩ := hZ
    obtain ⟨zb, zo, rfl, _, _, hze⟩ := hzc (fun e => by rw [e] at hZ8; simp at hZ8)
    rw [hZ8] at hze ⊢
    have HZE := show Hid _ from hze
    have HBIT : Hid (∀ i, Z.getD (i / 16) 0 / 2 ^ (i % 16) % 2 = P / 2 ^ i % 2) := fun i => by rw [← hvZ]; exact bit_at hdZ i
    have HF2 := show Hid _ from hF2
    clear sa sb hpr hze hzc hvZ hF2
    go_wp2_with fail
    go_loop [9, 10, 11, 12] (fun qv rv gv iv => ∃ (n q r : Nat) (g : Bool), n ≤ 128 ∧ iv = .int .i64 ((n : Int) - 1) ∧ qv = .int .u64 (q : Int) ∧ rv = .int .u64 (r : Int) ∧ gv = .bool g ∧ Hid (q = P / 2 ^ n / D % 18446744073709551616) ∧ Hid (r = P / 2 ^ n % D) ∧ Hid (g = decide (18446744073709551616 ≤ P / 2 ^ n / D))) (fun _ _ _ iv => (intOf iv + 1).toNat)
    case atStart => exact ⟨128, 0, 0, false, by omega, rfl, rfl, rfl, rfl, by show _ = _; rw [Nat.div_eq_of_lt HPL.out]; simp, by show _ = _; rw [Nat.div_eq_of_lt HPL.out]; simp, by show _ = _; rw [Nat.div_eq_of_lt HPL.out]; simp⟩
    case round =>
      obtain ⟨n, q, r, g, hn, rfl, rfl, rfl, rfl, HQ, HR, HG⟩ := hrel
      have hql : q < 18446744073709551616 := by rw [HQ.out]; exact Nat.mod_lt _ (by omega)
      have hrD : r < D := by rw [HR.out]; exact Nat.mod_lt _ hD0
      rcases Nat.eq_zero_or_pos n with hz | hz
      · subst hz
        have h1 := HQ.out
        have h2 := HR.out
        have h3 := HG.out
        rw [Nat.pow_zero, Nat.div_one] at h1 h2 h3
        have H1 := show Hid _ from h1
        have H2 := show Hid _ from h2
        have H3 := show Hid _ from h3
        clear HQ HR HG h1 h2 h3
        go_upto_region 14 with fail
        go_cut [13] (fun c w' => c = .bool SG ∧ w' = w2)
        case first =>
          go_wp2
          go_meet
          case rel => exact ⟨by rw [HBL.out]; rfl, rfl⟩
        case rest =>
          obtain ⟨rfl, hwc⟩ := hcut
          have hwc' := hwc.symm
          clear hwc
          subst hwc'
          cases g with
          | true =>
            have hbig : 18446744073709551616 ≤ P / D := of_decide_eq_true H3.out.symm
            obtain ⟨q1, q2⟩ := md_great (s := SG) (P := P) (d := D) (by omega)
            have rv0 : RV = 0 := by rw [HRV.out]; exact q1
            have re0 : RE = 23 := by rw [HRE.out, q2]; rfl
            clear HRV HRE H1 H2 H3 q1 q2 hbig HPL HBIT HZE HBL
            subst rv0
            subst re0
            cases SG
            · go_wp2
              go_ret2
              exact ⟨rfl, HF2.out⟩
            · rcases Nat.eq_zero_or_pos r with hr | hr
              · have hrb : decide ((0 : Int) < (r : Int)) = false := by rw [decide_eq_false_iff_not]; omega
                have hrb' : decide (0 < r) = false := by rw [decide_eq_false_iff_not]; omega
                go_wp2
                go_ret2
                exact ⟨rfl, HF2.out⟩
              · have hrb : decide ((0 : Int) < (r : Int)) = true := by rw [decide_eq_true_iff]; omega
                have hrb' : decide (0 < r) = true := by rw [decide_eq_true_iff]; omega
                obtain ⟨X, hX⟩ : ∃ X : Nat, IntKind.u64.wrap ((q : Int) + 1) = (X : Int) := ⟨(q + 1) % 18446744073709551616, by rw [IntKind.wrap_u64]; omega⟩
                go_wp2
                go_ret2
                exact ⟨rfl, HF2.out⟩
          | false =>
            have hsm : ¬ 18446744073709551616 ≤ P / D := of_decide_eq_false H3.out.symm
            have hq : q = P / D := by have := H1.out; rw [Nat.mod_eq_of_lt (by omega)] at this; exact this
            have hr := H2.out
            have hE : RE = if sgnB SG (mdQ SG P D) = true then 0 else 23 := HRE.out
            have hV : RV = sgnQ SG (mdQ SG P D) := HRV.out
            have hmq : mdQ SG P D = if SG = true ∧ 0 < r then q + 1 else q := by unfold mdQ; rw [← hq, ← hr]
            clear HRV HRE H1 H2 H3 hsm hq hr HPL HBIT HZE HBL
            cases SG
            · rw [if_neg (by simp)] at hmq
              rw [hmq] at hE hV
              clear hmq
              by_cases h63 : q < 9223372036854775808
              · have b1 : decide ((9223372036854775808 : Int) < (q : Int)) = false := by rw [decide_eq_false_iff_not]; omega
                have b1' : decide (9223372036854775808 < q) = false := by rw [decide_eq_false_iff_not]; omega
                have b2 : ¬ (q : Int) = 9223372036854775808 := by omega
                have b3 : decide ((q : Int) = 9223372036854775808) = false := by rw [decide_eq_false_iff_not]; omega
                have hV' : RV = (q : Int) := by rw [hV]; unfold sgnQ; rw [if_neg (by decide), if_pos h63]
                have hE' : RE = 0 := by rw [hE, show sgnB false q = true by unfold sgnB; rw [if_neg (by decide)]; simp [h63]]; rfl
                clear hV hE
                subst hV'
                subst hE'
                go_wp2
                go_ret2
                exact ⟨rfl, HF2.out⟩
              · have hV' : RV = 0 := by rw [hV]; unfold sgnQ; rw [if_neg (by decide), if_neg h63]
                have hE' : RE = 23 := by rw [hE, show sgnB false q = false by unfold sgnB; rw [if_neg (by decide)]; simp [h63]]; rfl
                clear hV hE
                subst hV'
                subst hE'
                by_cases hgt : 9223372036854775808 < q
                · have b1 : decide ((9223372036854775808 : Int) < (q : Int)) = true := by rw [decide_eq_true_iff]; omega
                  have b1' : decide (9223372036854775808 < q) = true := by rw [decide_eq_true_iff]; omega
                  go_wp2
                  go_ret2
                  exact ⟨rfl, HF2.out⟩
                · have b1 : decide ((9223372036854775808 : Int) < (q : Int)) = false := by rw [decide_eq_false_iff_not]; omega
                  have b1' : decide (9223372036854775808 < q) = false := by rw [decide_eq_false_iff_not]; omega
                  have b2 : (q : Int) = 9223372036854775808 := by omega
                  go_wp2
                  go_ret2
                  exact ⟨rfl, HF2.out⟩
            · rcases Nat.eq_zero_or_pos r with hr | hr
              · have hrb : decide ((0 : Int) < (r : Int)) = false := by rw [decide_eq_false_iff_not]; omega
                have hrb' : decide (0 < r) = false := by rw [decide_eq_false_iff_not]; omega
                rw [if_neg (fun h => by have := h.2; omega)] at hmq
                rw [hmq] at hE hV
                clear hmq
                by_cases h63 : q ≤ 9223372036854775808
                · have b1 : decide ((9223372036854775808 : Int) < (q : Int)) = false := by rw [decide_eq_false_iff_not]; omega
                  have b1' : decide (9223372036854775808 < q) = false := by rw [decide_eq_false_iff_not]; omega
                  have hV' : RV = -(q : Int) := by rw [hV]; unfold sgnQ; rw [if_pos rfl, if_pos h63]
                  have hE' : RE = 0 := by rw [hE]; unfold sgnB; rw [if_pos rfl]; simp [h63]
                  clear hV hE
                  subst hV'
                  subst hE'
                  obtain ⟨X, hX, hX2⟩ : ∃ X : Int, IntKind.u64.wrap (-(q : Int)) = X ∧ wrap64 X = -(q : Int) := ⟨_, rfl, by rw [IntKind.wrap_u64]; unfold wrap64; omega⟩
                  go_wp2
                  go_ret2
                  exact ⟨rfl, HF2.out⟩
                · have b1 : decide ((9223372036854775808 : Int) < (q : Int)) = true := by rw [decide_eq_true_iff]; omega
                  have b1' : decide (9223372036854775808 < q) = true := by rw [decide_eq_true_iff]; omega
                  have hV' : RV = 0 := by rw [hV]; unfold sgnQ; rw [if_pos rfl, if_neg h63]
                  have hE' : RE = 23 := by rw [hE]; unfold sgnB; rw [if_pos rfl]; simp [h63]
                  clear hV hE
                  subst hV'
                  subst hE'
                  go_wp2
                  go_ret2
                  exact ⟨rfl, HF2.out⟩
              · have hrb : decide ((0 : Int) < (r : Int)) = true := by rw [decide_eq_true_iff]; omega
                have hrb' : decide (0 < r) = true := by rw [decide_eq_true_iff]; omega
                rw [if_pos ⟨rfl, hr⟩] at hmq
                rw [hmq] at hE hV
                clear hmq
                by_cases h63 : q < 9223372036854775808
                · have b1 : decide ((9223372036854775808 : Int) ≤ (q : Int)) = false := by rw [decide_eq_false_iff_not]; omega
                  have b1' : decide (9223372036854775808 ≤ q) = false := by rw [decide_eq_false_iff_not]; omega
                  have hV' : RV = -((q + 1 : Nat) : Int) := by rw [hV]; unfold sgnQ; rw [if_pos rfl, if_pos (by omega)]
                  have hE' : RE = 0 := by rw [hE]; unfold sgnB; rw [if_pos rfl]; simp; omega
                  clear hV hE
                  obtain ⟨Y, hY⟩ : ∃ Y : Nat, Y = q + 1 := ⟨_, rfl⟩
                  rw [← hY] at hV'
                  have b4 : (q : Int) + 1 = (Y : Int) := by omega
                  have hYl : Y ≤ 9223372036854775808 := by omega
                  have b2 : decide ((9223372036854775808 : Int) < (Y : Int)) = false := by rw [decide_eq_false_iff_not]; omega
                  have b2' : decide (9223372036854775808 < Y) = false := by rw [decide_eq_false_iff_not]; omega
                  clear hY
                  subst hV'
                  subst hE'
                  obtain ⟨X, hX, hX2⟩ : ∃ X : Int, IntKind.u64.wrap (-(Y : Int)) = X ∧ wrap64 X = -(Y : Int) := ⟨_, rfl, by rw [IntKind.wrap_u64]; unfold wrap64; omega⟩
                  go_wp2
                  go_ret2
                  exact ⟨rfl, HF2.out⟩
                · have b1 : decide ((9223372036854775808 : Int) ≤ (q : Int)) = true := by rw [decide_eq_true_iff]; omega
                  have b1' : decide (9223372036854775808 ≤ q) = true := by rw [decide_eq_true_iff]; omega
                  have hV' : RV = 0 := by rw [hV]; unfold sgnQ; rw [if_pos rfl, if_neg (by omega)]
                  have hE' : RE = 23 := by rw [hE]; unfold sgnB; rw [if_pos rfl]; simp; omega
                  clear hV hE
                  subst hV'
                  subst hE'
                  obtain ⟨X, hX⟩ : ∃ X : Nat, IntKind.u64.wrap ((q : Int) + 1) = (X : Int) := ⟨(q + 1) % 18446744073709551616, by rw [IntKind.wrap_u64]; omega⟩
                  go_wp2
                  go_ret2
                  exact ⟨rfl, HF2.out⟩
      · obtain ⟨i, rfl⟩ : ∃ i, n = i + 1 := ⟨n - 1, by omega⟩
        have e1 : ((i + 1 : Nat) : Int) - 1 = (i : Int) := by omega
        rw [e1]
        have hbit := HBIT.out i
        have hcell := HZE.out (i / 16) (by omega)
        have hdg := Dg.getD (by omega) hdZ (i / 16)
        obtain ⟨K1, hK1⟩ : ∃ x, x = i / 16 := ⟨_, rfl⟩
        obtain ⟨K2, hK2⟩ : ∃ x, x = i % 16 := ⟨_, rfl⟩
        obtain ⟨DG, hDG⟩ : ∃ x, x = Z.getD (i / 16) 0 := ⟨_, rfl⟩
        rw [← hDG] at hbit hcell hdg
        rw [← hK1] at hcell
        rw [← hK2] at hbit
        obtain ⟨Y, hY⟩ : ∃ x, x = DG / 2 ^ K2 := ⟨_, rfl⟩
        rw [← hY] at hbit
        have hYl : Y ≤ DG := by rw [hY]; exact Nat.div_le_self _ _
        have hand := and_one_u Y (by omega)
        obtain ⟨Bt, hBt⟩ : ∃ x, x = Y % 2 := ⟨_, rfl⟩
        rw [← hBt] at hbit hand
        have hBl : Bt < 2 := by omega
        have k1 : (i : Int) / 16 = (K1 : Int) := by rw [hK1]; simp
        have k1' : (i : Int).tdiv 16 = (K1 : Int) := by rw [hK1, Int.tdiv_eq_ediv_of_nonneg (by omega)]; simp
        have k2 : (i : Int) % 16 = (K2 : Int) := by rw [hK2]; simp
        have k2' : (i : Int).tmod 16 = (K2 : Int) := by rw [hK2, Int.tmod_eq_emod_of_nonneg (by omega)]; simp
        have k3 : (DG : Int) / 2 ^ K2 = (Y : Int) := by rw [hY]; simp
        have hK1l : K1 < 8 := by omega
        have hK2l : K2 < 16 := by omega
        have i1 : (0 : Int) ≤ (K1 : Int) := by omega
        have i2 : (K1 : Int) < 8 := by omega
        obtain ⟨s1, s2⟩ := md_step (top := P / 2 ^ (i + 1)) (d := D) (bit := Bt) hD0 hBl
        have hht := half_top P i
        rw [← hbit] at hht
        rw [← hht, ← HR.out] at s1 s2
        obtain ⟨T, hT⟩ : ∃ x, x = 2 * r + Bt := ⟨_, rfl⟩
        rw [← hT] at s1 s2
        have k4 : 2 * (r : Int) + (Bt : Int) = (T : Int) := by omega
        have hTl : T < 18446744073709551616 := by omega
        have hnext : Hid (D ≤ T ∧ (P / 2 ^ i / D = 2 * (P / 2 ^ (i + 1) / D) + 1 ∧ P / 2 ^ i % D = T - D) ∨ T < D ∧ (P / 2 ^ i / D = 2 * (P / 2 ^ (i + 1) / D) ∧ P / 2 ^ i % D = T)) := by
          rcases Nat.lt_or_ge T D with h | h
          · exact .inr ⟨h, s2 h⟩
          · exact .inl ⟨h, s1 h⟩
        obtain ⟨Q2, hQ2⟩ : ∃ x, x = q * 2 % 18446744073709551616 := ⟨_, rfl⟩
        have k5 : IntKind.u64.wrap ((q : Int) * 2) = (Q2 : Int) := by rw [IntKind.wrap_u64, hQ2]; omega
        obtain ⟨G2, hG2⟩ : ∃ x, x = (g || decide (9223372036854775808 ≤ q)) := ⟨_, rfl⟩
        have w1 := md_word (bit := 1) HQ.out HG.out (by omega)
        have w0 := md_word (bit := 0) HQ.out HG.out (by omega)
        rw [← hG2, ← hQ2] at w1 w0
        have W1 := show Hid _ from w1
        have W0 := show Hid _ from w0
        have hQ2l : Q2 + 1 < 18446744073709551616 := by omega
        clear s1 s2 hht hT hY hBt hDG hK1 hK2 hbit w1 w0 HQ HR HG hQ2
        go_upto_region 9 with fail
        go_cut [11] (fun c w' => c = .bool G2 ∧ w' = w2)
        case first =>
          have HG2 := show Hid _ from hG2
          clear hG2
          cases g
          · by_cases h63 : 9223372036854775808 ≤ q
            · have hb63 : decide ((9223372036854775808 : Int) ≤ (q : Int)) = true := by rw [decide_eq_true_iff]; omega
              have hb63' : decide (9223372036854775808 ≤ q) = true := by rw [decide_eq_true_iff]; omega
              go_wp2
              go_meet
              case rel => exact ⟨by rw [HG2.out, hb63']; rfl, rfl⟩
            · have hb63 : decide ((9223372036854775808 : Int) ≤ (q : Int)) = false := by rw [decide_eq_false_iff_not]; omega
              have hb63' : decide (9223372036854775808 ≤ q) = false := by rw [decide_eq_false_iff_not]; omega
              go_wp2
              go_meet
              case rel => exact ⟨by rw [HG2.out, hb63']; rfl, rfl⟩
          · go_wp2
            go_meet
            case rel => exact ⟨by rw [HG2.out]; rfl, rfl⟩
        case rest =>
          obtain ⟨rfl, hwc⟩ := hcut
          have hwc' := hwc.symm
          clear hwc hG2
          subst hwc'
          rcases hnext.out with ⟨hge, n1, n2⟩ | ⟨hge, n1, n2⟩
          · have hgb : decide ((D : Int) ≤ (T : Int)) = true := by rw [decide_eq_true_iff]; omega
            have HQ' : Hid (Q2 + 1 = P / 2 ^ i / D % 18446744073709551616) := by show _ = _; rw [n1]; exact W1.out.2
            have HR' : Hid (T - D = P / 2 ^ i % D) := n2.symm
            have HG' : Hid (G2 = decide (18446744073709551616 ≤ P / 2 ^ i / D)) := by show _ = _; rw [n1]; exact W1.out.1
            obtain ⟨TD, hTD⟩ : ∃ x, x = T - D := ⟨_, rfl⟩
            rw [← hTD] at HR'
            have k6 : (T : Int) - (D : Int) = (TD : Int) := by omega
            have hTDl : TD < 18446744073709551616 := by omega
            clear n1 n2 W1 W0 hnext hTD
            go_wp2
            go_round
            case rel => exact ⟨i, Q2 + 1, TD, G2, by omega, by go_num, by go_num, rfl, rfl, HQ', HR', HG'⟩
            case measure => simp [intOf]
          · have hgb : ¬ D ≤ T := by omega
            have HQ' : Hid (Q2 = P / 2 ^ i / D % 18446744073709551616) := by show _ = _; rw [n1]; have := W0.out.2; omega
            have HR' : Hid (T = P / 2 ^ i % D) := n2.symm
            have HG' : Hid (G2 = decide (18446744073709551616 ≤ P / 2 ^ i / D)) := by show _ = _; rw [n1]; exact W0.out.1
            clear n1 n2 W1 W0 hnext
            go_wp2
            go_round
            case rel => exact ⟨i, Q2, T, G2, by omega, by go_num, by go_num, rfl, rfl, HQ', HR', HG'⟩
            case measure => simp [intOf]
end Go.Proofs.YtomlkdahinemmaaDoor
