/-
  The document's Parse.
-/
import Derived.Test.YtdmjfmipalifpaaGreatDoorRga
import Derived.Test.YtdmjfmipalifpaaGreatDoorRfd
import Derived.Test.YtdmjfmipalifpaaGreatDoorRfe
import Derived.Test.YtdmjfmipalifpaaGreatDoorPz
import Derived.Test.YtdmjfmipalifpaaGreatDoorWv
import Derived.Deep.RegionHeld3
namespace Go.Proofs.YtdmjfmipalifpaaGreatDoor
open Go.RowKit

theorem head_at (s : ByteArray) (h : 0 < s.size) : s.data.toList.head? = some s[0] := by
  rw [List.head?_eq_getElem?]
  exact toList_at s 0 h
theorem pr_bad {l : List UInt8} {i : Nat} (h : noText l) (hi : tE l = i) : prP l = (i : Int) ∧ prE l = 43 ∧ prN l = 0 := ⟨by unfold prP; rw [if_pos h, hi], if_pos h, if_pos h⟩
theorem pr_good {l : List UInt8} (h : ¬ noText l) : prP l = 0 ∧ prE l = fitE (dn l) ∧ prN l = fitN (dn l) := ⟨if_neg h, if_neg h, if_neg h⟩
theorem rn_empty (w : World) : Rn (w.alloc (.cells #[] 3)) (.slice (some ⟨w.heap.size, 0, none⟩) 0 0) (dn []) := rn_of_own (X := []) (ownI_empty w) (Dg.nil _) Can.nil (by simp)
theorem rn_cut (v : Value) (N : Nat) (w : World) (h : Rn w v N) : Calls Tryz.prog 39 #[v] w fun e w' => ∃ v', e = .returned v' ∧ Rn w v' N ∧ w' = w := by
  obtain ⟨L, hL, _, rfl⟩ := h
  exact refCut_any _ v L w hL
theorem rn_ten (w : World) : Rn (w.alloc (.cells #[.int .i64 10] 3)) (.slice (some ⟨w.heap.size, 0, none⟩) 1 1) 10 :=
  ⟨[10], ⟨_, 1, rfl, ⟨by simp, by simp⟩, by omega, fun _ => ⟨w.heap.size, 0, rfl, trivial, by simp, fun i hi => by
    have : i = 0 := by simp at hi; omega
    subst this
    rw [Lib.cell_of_heap (heap_alloc_new w _)]
    rfl⟩, Dg.one (by omega), fun e => by cases e⟩, by simp [Can], by simp [val]⟩
theorem dn_take_le (l : List UInt8) (n : Nat) : dn (l.take n) ≤ dn l := by
  have := dn_append (l.take n) (l.drop n)
  rw [List.take_append_drop] at this
  rw [this]
  have := Nat.le_mul_of_pos_right (dn (l.take n)) (Nat.pow_pos (n := (l.drop n).length) (show 0 < 10 by decide))
  omega

set_option maxHeartbeats 40000000 in
set_option maxRecDepth 100000 in
theorem refParse_any (s : ByteArray) (w : World) (hs : s.size ≤ 9223372036854775807) :
    Calls Tryz.prog 10 #[.string s] w fun e w' => ∃ v', e = .returned (.tuple #[v', .int .i64 (prP s.data.toList), .int .i64 (prE s.data.toList)]) ∧ (Rn w' v' (prN s.data.toList) ∧ Fresh w w') := by
  have HSZ : Hid (s.size = s.data.toList.length) := Lib.size_eq s
  have HAT : Hid (∀ k (h : k < s.size), s.data.toList[k]? = some s[k]) := fun k h => toList_at s k h
  have HTK : Hid (∀ k (h : k < s.size), s.data.toList.take (k + 1) = s.data.toList.take k ++ [s[k]]) := fun k h => take_snoc s k h
  have HHD : Hid (∀ (h : 0 < s.size), s.data.toList.head? = some s[0]) := fun h => head_at s h
  generalize s.data.toList = l at *
  obtain ⟨PP, hPP⟩ : ∃ x, x = prP l := ⟨_, rfl⟩
  obtain ⟨PE, hPE⟩ : ∃ x, x = prE l := ⟨_, rfl⟩
  obtain ⟨PN, hPN⟩ : ∃ x, x = prN l := ⟨_, rfl⟩
  rw [← hPP, ← hPE, ← hPN]
  have HPR : Hid (PP = prP l ∧ PE = prE l ∧ PN = prN l) := ⟨hPP, hPE, hPN⟩
  clear hPP hPE hPN
  go_enter Tryz.func10, Tryz.ntmps10
  go_wp2_with fail
  go_loop [5] (fun iv => ∃ i : Nat, i ≤ s.size ∧ iv = .int .i64 (i : Int) ∧ Hid (Ds (l.take i)) ∧ Hid (2 ≤ i → l.head? ≠ some 48)) (fun iv => s.size - (intOf iv).toNat)
  case atStart => exact ⟨0, Nat.zero_le _, rfl, Ds.nil, fun h => absurd h (by decide)⟩
  case round =>
    obtain ⟨i, hi, rfl, HD, H2⟩ := hrel
    by_cases hlt : i < s.size
    · by_cases hd : isD s[i] = true
      · obtain ⟨d1, d2⟩ := (isD_iff _).1 hd
        have HD' : Hid (Ds (l.take (i + 1))) := by
          show Ds _
          rw [HTK.out i hlt]
          exact Ds.append HD.out (fun x hx => by rw [List.mem_singleton] at hx; rw [hx]; exact hd)
        by_cases hi1 : i = 1
        · subst hi1
          by_cases h0 : s[0] = 48
          · have hz : l.head? = some 48 := by rw [HHD.out (by omega), h0]
            have hte := tE_zero hz
            obtain ⟨q1, q2, q3⟩ := pr_bad (.inr (by rw [hte, ← HSZ.out]; exact hlt)) hte
            obtain ⟨r1, r2, r3⟩ := HPR.out
            rw [q1] at r1
            rw [q2] at r2
            rw [q3] at r3
            subst r1 r2 r3
            have h0' : s[0].toNat = 48 := by rw [h0]; rfl
            clear HPR HSZ HAT HTK HHD HD HD' H2 hz hte hd q1 q2 q3 h0
            go_wp2
            go_ret3
            exact ⟨_, rfl, rn_nil _, Kept.refl _ _⟩
          · have H2' : Hid (2 ≤ 1 + 1 → l.head? ≠ some 48) := fun _ => by rw [HHD.out (by omega)]; simpa using h0
            have h0' : ¬ s[0].toNat = 48 := fun e => h0 (by rw [← UInt8.toNat_inj]; exact e)
            have hb0 : ((s[0].toNat : Int) == 48) = false := by rw [beq_eq_false_iff_ne]; omega
            clear HPR HSZ HAT HTK HHD HD H2 hd h0 h0'
            go_wp2
            go_round
            case rel => exact ⟨1 + 1, by omega, rfl, HD', H2'⟩
            case measure => simp [intOf]; omega
        · have H2' : Hid (2 ≤ i + 1 → l.head? ≠ some 48) := fun h => H2.out (by omega)
          have hi1' : ¬ (i : Int) = 1 := by omega
          clear HPR HSZ HAT HTK HHD HD H2 hd
          go_wp2
          go_round
          case rel => exact ⟨i + 1, by omega, by go_num, HD', H2'⟩
          case measure => simp [intOf]; omega
      · have hte : tE l = i := by
          by_cases hz : l.head? = some 48
          · rw [tE_zero hz]
            have hi2 : ¬ 2 ≤ i := fun e => H2.out e hz
            rcases Nat.eq_zero_or_pos i with e | e
            · exfalso
              subst e
              rw [HHD.out hlt] at hz
              exact hd (by rw [Option.some.inj hz]; rfl)
            · omega
          · exact tE_pre hz ⟨by rw [← HSZ.out]; omega, HD.out, fun b hb => by rw [HAT.out i hlt] at hb; cases hb; simpa using hd⟩
        obtain ⟨q1, q2, q3⟩ := pr_bad (.inr (by rw [hte, ← HSZ.out]; exact hlt)) hte
        obtain ⟨r1, r2, r3⟩ := HPR.out
        rw [q1] at r1
        rw [q2] at r2
        rw [q3] at r3
        subst r1 r2 r3
        have hd' : ¬ (48 ≤ s[i].toNat ∧ s[i].toNat ≤ 57) := fun h => hd ((isD_iff _).2 h)
        clear HPR HSZ HAT HTK HHD HD H2 hd hte q1 q2 q3
        by_cases d1 : s[i].toNat < 48
        · clear hd'
          go_wp2
          go_ret3
          exact ⟨_, rfl, rn_nil _, Kept.refl _ _⟩
        · have d2 : 57 < s[i].toNat := by omega
          clear hd'
          go_wp2
          go_ret3
          exact ⟨_, rfl, rn_nil _, Kept.refl _ _⟩
    · obtain hil : i = s.size := by omega
      have hDs : Ds l := by
        have := HD.out
        rw [List.take_of_length_le (by rw [← HSZ.out]; omega)] at this
        exact this
      by_cases hemp : s.size = 0
      · obtain rfl : s = ⟨#[]⟩ := ByteArray.size_eq_zero_iff.1 hemp
        have hl : l = [] := List.length_eq_zero_iff.1 (HSZ.out.symm.trans hemp)
        obtain ⟨q1, q2, q3⟩ := pr_bad (l := l) (i := 0) (.inl hl) (by rw [hl]; rfl)
        obtain ⟨r1, r2, r3⟩ := HPR.out
        rw [q1] at r1
        rw [q2] at r2
        rw [q3] at r3
        subst r1 r2 r3
        rw [hil]
        clear HPR HSZ HAT HTK HHD HD H2 q1 q2 q3 hDs
        go_wp2
        go_ret3
        exact ⟨_, rfl, rn_nil _, Kept.refl _ _⟩
      · have hem := not_empty (s := s) (by omega)
        have hgood : ¬ noText l := by
          rintro (e | e)
          · rw [e] at HSZ
            exact hemp HSZ.out
          · by_cases hz : l.head? = some 48
            · rw [tE_zero hz, ← HSZ.out] at e
              exact H2.out (by omega) hz
            · rw [tE_pre hz (n := l.length) ⟨Nat.le_refl _, hDs.take _, fun b hb => by simp at hb⟩] at e
              exact absurd e (Nat.lt_irrefl _)
        obtain ⟨q1, q2, q3⟩ := pr_good hgood
        obtain ⟨r1, r2, r3⟩ := HPR.out
        rw [q1] at r1
        rw [q2] at r2
        rw [q3] at r3
        subst r1
        have HR2 := show Hid _ from r2
        have HR3 := show Hid _ from r3
        have HDS := show Hid _ from hDs
        rw [hil]
        clear HPR HAT HHD HD H2 q1 q2 q3 hDs hgood r2 r3
        go_wp2_with fail
        go_loopw [6, 7] (fun xv iv wr => ∃ j : Nat, j ≤ s.size ∧ iv = .int .i64 (j : Int) ∧ Hid (Rn wr xv (dn (l.take j))) ∧ Hid (bl (dn (l.take j)) ≤ 65536) ∧ Hid (Fresh w wr)) (fun _ iv _ => s.size - (intOf iv).toNat)
        case atStart => exact ⟨0, Nat.zero_le _, rfl, rn_empty w, by show bl (dn []) ≤ _; decide, (Kept.refl _ _).alloc _⟩
        case round =>
          obtain ⟨j, hj, rfl, HN, HB, HF⟩ := hrel
          by_cases hjl : j < s.size
          · have hm : s[j] ∈ l := List.mem_of_mem_take (i := j + 1) (by rw [HTK.out j hjl]; simp)
            obtain ⟨d1, d2⟩ := (isD_iff _).1 (HDS.out s[j] hm)
            obtain ⟨Dd, hDd⟩ : ∃ x : Nat, x = s[j].toNat - 48 := ⟨_, rfl⟩
            have e1 : (s[j].toNat : Int) - 48 = (Dd : Int) := by omega
            have hDl : Dd ≤ 9 := by omega
            obtain ⟨A, hA⟩ : ∃ A, A = dn (l.take j) := ⟨_, rfl⟩
            obtain ⟨B, hB⟩ : ∃ B, B = dn (l.take (j + 1)) := ⟨_, rfl⟩
            have hAB : A * 10 + Dd = B := by rw [hB, hA, HTK.out j hjl, dn_snoc, hDd]
            rw [← hA] at HN HB
            have HBE := show Hid _ from hB
            obtain ⟨xa, xn, xc, rfl⟩ := HN.out.shape
            have hbd : bl A ≤ 65536 := HB.out
            have hb10 : bl (A * 10) ≤ 65536 + 4 := Nat.le_trans (bl_mul A 10) (Nat.add_le_add hbd (by decide))
            have hbt : bl 10 ≤ 4 := by decide
            have hbD : bl Dd ≤ 4 := bl_le (by omega)
            have hmul := fun W v10 (hF : Fresh wr W) (h10 : Rn W v10 10) => refMul_any (.slice xa xn xc) v10 A 10 W (Rn.fresh HN.out hF) h10 (by omega)
            have hof := fun W => refOf_any Dd W (by omega)
            have hadd := fun W v1 v2 (h1 : Rn W v1 (A * 10)) (h2 : Rn W v2 Dd) => refAdd_any v1 v2 _ _ W h1 h2 (by omega)
            have hct := fun W v (h : Rn W v (A * 10 + Dd)) => rn_cut v _ W h
            rw [hAB] at hadd hct
            have hFr : Fresh wr wr := Kept.refl _ _
            clear hA hB hAB hDd hm HTK HDS
            go_upto_region 12 with fail
            go_cut [6] (fun x w' => ∃ v', x = v' ∧ (Rn w' v' B ∧ Fresh wr w'))
            case first =>
              clear HSZ HR2 HR3 HF HB HBE hbd hb10 hbt hbD hs hi hil hemp hem hj hFr HN
              have HMul : Hid (Unit → _) := fun (_ : Unit) => hmul
              have HOf : Hid (Unit → _) := fun (_ : Unit) => hof
              have HAdd : Hid (Unit → _) := fun (_ : Unit) => hadd
              have HCt : Hid (Unit → _) := fun (_ : Unit) => hct
              have hw8 : IntKind.u8.wrap (Dd : Int) = (Dd : Int) := by rw [IntKind.wrap_u8]; omega
              have hw64 : IntKind.i64.wrap (Dd : Int) = (Dd : Int) := by rw [IntKind.wrap_i64]; omega
              clear hmul hof hadd hct
              go_region_held3 (fun X => Fresh wr X) (first | assumption | exact (Kept.refl _ _).drew | exact ((Kept.refl _ _).alloc _).drew) (first
                | (go_at_call 40; have hG0 : Fresh wr (wr.alloc (.cells #[.int .i64 10] 3)).drew := ((Kept.refl _ _).alloc _).drew; refine (HMul.out () _ _ hG0 (Rn.fresh (rn_ten wr) (Kept.refl _ _).drew)).mono ?_; rintro e X1 ⟨v1, rfl, hN1, hF1⟩; have hG1 : Fresh wr X1 := Kept.trans hG0 hF1 (fun _ _ e => e))
                | (go_at_call 41; refine (HOf.out () _).mono ?_; rintro e X2 ⟨v2, rfl, hN2, hF2⟩; have hN1' := Rn.fresh hN1 hF2; have hG2 : Fresh wr X2 := Kept.trans hG1 hF2 (fun _ _ e => e))
                | (go_at_call 25; refine (HAdd.out () _ _ _ hN1' hN2).mono ?_; rintro e X3 ⟨v3, rfl, hN3, hF3⟩; have hG3 : Fresh wr X3 := Kept.trans hG2 hF3 (fun _ _ e => e))
                | (go_at_call 39; refine (HCt.out () _ _ hN3).mono ?_; rintro e X4 ⟨v4, rfl, hN4, hX4⟩; subst hX4))
              all_goals
                go_wp2
                go_meet
                case rel => exact ⟨_, rfl, hN4, hG3⟩
            case rest =>
              obtain ⟨v', hxv, hN, hF⟩ := hcut
              have hbits := refBits_any v' B wc hN
              have HN' := show Hid _ from hN
              have HF' : Hid (Fresh w wc) := Kept.trans HF.out hF (fun _ _ e => e)
              obtain ⟨ya, yn, yc, rfl⟩ := hN.shape
              subst hxv
              clear hN hF HF hmul hof hadd hct HN
              by_cases hbig : 65536 < bl B
              · have hle : B ≤ dn l := by rw [HBE.out]; exact dn_take_le l (j + 1)
                obtain ⟨f1, f2⟩ := fit_out (N := dn l) (Nat.lt_of_lt_of_le hbig (bl_mono hle))
                have r2 := HR2.out
                have r3 := HR3.out
                rw [f2] at r2
                rw [f1] at r3
                subst r2 r3
                clear HR2 HR3 f1 f2 hle HBE HSZ
                go_wp2_with fail
                refine hbits.mono ?_
                rintro e w5 ⟨rfl, rfl⟩
                go_wp2
                go_ret3
                exact ⟨_, rfl, rn_nil _, HF'.out⟩
              · have HN2 : Hid (Rn wc (.slice ya yn yc) (dn (l.take (j + 1)))) := by rw [← HBE.out]; exact HN'
                have HB2 : Hid (bl (dn (l.take (j + 1))) ≤ 65536) := by rw [← HBE.out]; exact Nat.le_of_not_lt hbig
                clear HR2 HR3 HBE HSZ HN'
                go_wp2_with fail
                refine hbits.mono ?_
                rintro e w5 ⟨rfl, hw5⟩
                subst hw5
                go_wp2
                go_roundw
                case rel => exact ⟨j + 1, by omega, by go_num, HN2, HB2, HF'⟩
                case measure => simp [intOf]; omega
          · have hje : l.take j = l := List.take_of_length_le (by rw [← HSZ.out]; omega)
            have hN := HN.out
            have hB := HB.out
            rw [hje] at hN hB
            obtain ⟨f1, f2⟩ := fit_in hB
            have r2 := HR2.out
            have r3 := HR3.out
            rw [f2] at r2
            rw [f1] at r3
            subst r2
            rw [← r3] at hN
            have HN' := show Hid _ from hN
            obtain ⟨xa, xn, xc, rfl⟩ := hN.shape
            clear hN hB HN HB HR2 HR3 f1 f2 r3 hje HTK HSZ HDS
            go_wp2
            go_ret3
            exact ⟨_, rfl, HN'.out, HF.out⟩
end Go.Proofs.YtdmjfmipalifpaaGreatDoor
