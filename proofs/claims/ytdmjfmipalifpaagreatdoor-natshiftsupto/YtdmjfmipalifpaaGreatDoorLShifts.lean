/-
  For every list of numbers of 32 bits and any two numbers the statement NatShifts answers true: Up, Down and Power are the document's; its card, tied to the program's text.
-/
import Derived.Test.YtdmjfmipalifpaaGreatDoorShd
import Derived.Test.YtdmjfmipalifpaaGreatDoorDnd
import Derived.Test.YtdmjfmipalifpaaGreatDoorUpc
import Derived.Test.YtdmjfmipalifpaaGreatDoorPwb
import Derived.Deep.DeepWitnessRowRef
namespace Go.Proofs.YtdmjfmipalifpaaGreatDoor.LShifts
open Go.ChangeShapes Go.WideShapes Go.ChangeAt Go.RowKit

theorem rn_emp (w : World) (b : Nat) : Rn w (.slice (some ⟨b, 0, none⟩) 0 0) 0 := ⟨[], ⟨_, 0, rfl, by simp, by omega, fun h => absurd rfl h, Dg.nil _, fun e => by cases e⟩, Can.nil, rfl⟩

theorem fit_cases2 (N : Nat) : (fitE N = 0 → fitN N = N ∧ bl N ≤ 65536) ∧ (¬ fitE N = 0 → fitE N = 41 ∧ fitN N = 0) := by
  rcases Nat.lt_or_ge 65536 (bl N) with h | h
  · exact ⟨fun e => by rw [(fit_out h).2] at e; exact absurd e (by decide), fun _ => ⟨(fit_out h).2, (fit_out h).1⟩⟩
  · exact ⟨fun _ => ⟨(fit_in h).1, h⟩, fun e => absurd (fit_in h).2 e⟩
theorem pw_bl (M : Nat) (k : Int) (h : bl M ≤ 65536) : bl (pwN M k) ≤ 65536 := by
  unfold pwN
  split
  · decide
  · split
    · rcases Nat.lt_or_ge k.toNat 1 with e | e
      · rw [show min k.toNat 1 = 0 by omega, Nat.pow_zero]; decide
      · rw [show min k.toNat 1 = 1 by omega, Nat.pow_one]; exact h
    · split
      · decide
      · exact bl_fit _

set_option maxHeartbeats 4000000 in
set_option maxRecDepth 100000 in
theorem walk (av : Value) (A : List Nat) (n k : Int) (w : World) (hT : Pw w) (ha : Dw .u32 4294967296 (fun _ => True) w av A) (hla : A.length ≤ 1048576) (hn0 : -9223372036854775808 ≤ n) (hn1 : n ≤ 9223372036854775807) (hk0 : -9223372036854775808 ≤ k) (hk1 : k ≤ 9223372036854775807) :
    Calls Tryz.prog 6 #[av, .int .i64 n, .int .i64 k] w fun e w' => e = .returned (.bool true) ∧ Fresh w w' := by
  have haw := fun W (hF : Fresh w W) => awake_any W (hT.fresh hF)
  have hga := given_any av A w ha hla
  obtain ⟨aa, ac, rfl⟩ := ha.shape
  generalize val 4294967296 A = M at *
  have HAW : Hid (Unit → _) := fun (_ : Unit) => haw
  have HGA : Hid (Unit → _) := fun (_ : Unit) => hga
  have HPW := show Hid _ from hT
  have HK : Hid (-9223372036854775808 ≤ n ∧ n ≤ 9223372036854775807 ∧ -9223372036854775808 ≤ k ∧ k ≤ 9223372036854775807) := ⟨hn0, hn1, hk0, hk1⟩
  clear haw hga ha hT hla hn0 hn1 hk0 hk1
  generalize A.length = na at *
  go_enter Tryz.func6, Tryz.ntmps6
  go_wp2_with fail
  refine (HGA.out ()).mono ?_
  rintro e w1 ⟨mv, xv, rfl, hR1, hN1, hF1⟩
  obtain ⟨ma, mn, mc, rfl⟩ := hR1.shape
  obtain ⟨xa, xn, xc, rfl⟩ := hN1.shape
  have hst := One.made HPW.out hF1 hR1 hN1
  have HST := show Hid _ from hst
  have hsz1 : w1.heap.size < (w1.alloc (.cells #[.slice xa xn xc] 26)).heap.size := by simp
  have HSZ : Hid (w.heap.size ≤ w1.heap.size ∧ w1.heap.size < (w1.alloc (.cells #[.slice xa xn xc] 26)).heap.size) := ⟨hF1.size, hsz1⟩
  clear hst hR1 hN1 hF1 HGA hsz1
  go_wp2_with fail
  refine (HAW.out () _ HST.out.fr).mono ?_
  rintro e w3 ⟨rfl, hF3⟩
  have HS3 := show Hid _ from HST.out.next hF3
  have c3 := HS3.out.cx
  have HSZ3 : Hid (w.heap.size ≤ w1.heap.size ∧ w1.heap.size < w3.heap.size) := ⟨HSZ.out.1, Nat.lt_of_lt_of_le HSZ.out.2 hF3.size⟩
  clear hF3 HST HAW HSZ
  generalize w1.heap.size = bx at *
  by_cases hfm : fitE M = 0
  · have hM : ¬ 65536 < bl M := fun e => by rw [(fit_out e).2] at hfm; exact absurd hfm (by decide)
    have HB : Hid (bl M ≤ 65536) := Nat.le_of_not_lt hM
    have HNX : Hid (∀ W, One w bx (.slice xa xn xc) (.slice ma mn mc) M W → Nm W (.slice xa xn xc) M) := fun W h => by
      have h1 := h.nx
      rw [(fit_in HB.out).1] at h1
      exact h1
    rw [hfm]
    clear hM hfm
    have HUp : Hid (Unit → _) := fun (_ : Unit) => natUp_any _ M n w3 (HNX.out _ HS3.out) HB.out HK.out.1 HK.out.2.1
    go_wp2_with fail
    refine (HUp.out ()).mono ?_
    rintro e w4 ⟨sv, rfl, hN4, hF4⟩
    obtain ⟨sa, sn, sc, rfl⟩ := hN4.shape
    have hA1 : Fresh w4 (w4.alloc (.cells #[.slice sa sn sc] 26)) := (Kept.refl _ _).alloc _
    have hA2 : Fresh (w4.alloc (.cells #[.slice sa sn sc] 26)) ((w4.alloc (.cells #[.slice sa sn sc] 26)).alloc (.cells #[] 3)) := (Kept.refl _ _).alloc _
    have hA : Fresh w4 ((w4.alloc (.cells #[.slice sa sn sc] 26)).alloc (.cells #[] 3)) := hA1.trans hA2 (fun _ _ e => e)
    have HSv := show Hid _ from HS3.out.next (hF4.trans hA (fun _ _ e => e))
    have HNv : Hid (Unit → Nm ((w4.alloc (.cells #[.slice sa sn sc] 26)).alloc (.cells #[] 3)) (.slice sa sn sc) (upN M n)) := fun _ => hN4.fresh hA
    have HBv : Hid (((w4.alloc (.cells #[.slice sa sn sc] 26)).alloc (.cells #[] 3)).heap[w4.heap.size]? = some (.cells #[.slice sa sn sc] 26 (0, 0))) := hA2.at (heap_alloc_new w4 _) (fun e => e)
    have HSZ4 : Hid (w.heap.size ≤ bx ∧ bx < w4.heap.size) := ⟨HSZ3.out.1, Nat.lt_of_lt_of_le HSZ3.out.2 hF4.size⟩
    have cb : ((w4.alloc (.cells #[.slice sa sn sc] 26)).alloc (.cells #[] 3)).cell? ⟨w4.heap.size, 0, none⟩ = some (.slice sa sn sc) := by rw [Lib.cell_of_heap HBv.out]; rfl
    clear HUp hN4 hF4 hA1 hA2 hA HS3 c3 HSZ3
    by_cases hneg : n < 0
    case' pos =>
      obtain ⟨e1, e2⟩ := up_neg (M := M) hneg
      rw [e2]
      rw [e1] at HNv
      clear e1 e2
      obtain ⟨f1, f2⟩ := dn_neg (M := M) hneg
      have HIs : Hid (Unit → _) := fun (_ : Unit) => is_any _ (.slice (some ⟨w4.heap.size + 1, 0, none⟩) 0 0) (0) (1) _ (HNv.out ()) (rn_emp _ _) (by decide) HSv.out.pw
      go_wp2_with fail
      refine (HIs.out ()).mono ?_
      rintro e w5 ⟨rfl, hF⟩
      have HSn := show Hid _ from HSv.out.next hF
      have HBn := show Hid _ from hF.at HBv.out (fun e => e)
      clear HIs hF HSv HBv HNv cb
      have HSv := HSn
      have HBv := HBn
      clear HSn HBn
      generalize w4.heap.size = bs at *
      have cx := HSv.out.cx
      have HDn : Hid (Unit → _) := fun (_ : Unit) => natDown_any _ M n w5 (HNX.out _ HSv.out) HB.out HK.out.2.1
      rw [f1, f2] at HDn
      clear f1 f2
      go_wp2_with fail
      refine (HDn.out ()).mono ?_
      rintro e w6 ⟨v6, rfl, hN6, hF6⟩
      obtain ⟨aa1, an, ac1, rfl⟩ := hN6.shape
      have hb6 := hF6.at HBv.out (fun e => e)
      have c6 : w6.cell? ⟨bs, 0, none⟩ = some (.slice sa sn sc) := by rw [Lib.cell_of_heap hb6]; rfl
      have f6 : w6.frozen? ⟨bs, 0, none⟩ = false := Lib.frozen_of_heap hb6 0
      obtain ⟨hS7, hb7⟩ := One.set (HSv.out.next hF6) HPW.out hb6 (by have := HSZ4.out; omega) (by have := HSZ4.out; omega) (.slice aa1 an ac1)
      have HNn : Hid (Unit → Nm (w6.setCell ⟨bs, 0, none⟩ (.slice aa1 an ac1)) (.slice aa1 an ac1) (0)) := fun _ => nm_set hN6 hb6 (by decide) _ _
      have HSn := show Hid _ from hS7
      have HBn := show Hid _ from hb7
      have cb : (w6.setCell ⟨bs, 0, none⟩ (.slice aa1 an ac1)).cell? ⟨bs, 0, none⟩ = some (.slice aa1 an ac1) := by rw [Lib.cell_of_heap hb7]; rfl
      clear HDn hN6 hF6 hb6 hS7 hb7 HSv HBv cx
      have HSv := HSn
      have HBv := HBn
      have HNv := HNn
      clear HSn HBn HNn
      have HIs : Hid (Unit → _) := fun (_ : Unit) => is_any _ (.slice none 0 0) (0) (1) _ (HNv.out ()) (rn_nil _) (by decide) HSv.out.pw
      go_wp2_with fail
      refine (HIs.out ()).mono ?_
      rintro e w9 ⟨rfl, hF⟩
      have HSn := show Hid _ from HSv.out.next hF
      have HBn := show Hid _ from hF.at HBv.out (fun e => e)
      clear HIs hF HSv HBv HNv cb
      have HSv := HSn
      have HBv := HBn
      clear HSn HBn
      clear c6 f6
    case' neg =>
      obtain ⟨N, rfl⟩ : ∃ N : Nat, n = (N : Int) := ⟨n.toNat, by omega⟩
      obtain ⟨e1, e2⟩ := up_nat M N
      rw [e2]
      rw [e1] at HNv
      clear e1 e2
      obtain ⟨f1, f2⟩ := dn_nat M N
      have HRU : Hid (Unit → _) := fun (_ : Unit) => refUp_any _ M N _ HSv.out.rm HB.out (by have := HK.out; omega)
      have HNb : Hid (bl (M / 2 ^ N) ≤ 65536) := Nat.le_trans (bl_mono (Nat.div_le_self _ _)) HB.out
      have HFit := show Hid _ from fit_cases2 (M * 2 ^ N)
      by_cases hfu : fitE (M * 2 ^ N) = 0
      case' pos =>
        rw [hfu]
        rw [hfu] at HRU
        rw [(HFit.out.1 hfu).1] at HNv
        have HBb : Hid (bl (M * 2 ^ N) ≤ 65536) := (HFit.out.1 hfu).2
        clear hfu
        go_wp2_with fail
        refine (HRU.out ()).mono ?_
        rintro e w5 ⟨tv, rfl, hTR, ⟨ta, tn, tc, rfl⟩, hF⟩
        have HSn := show Hid _ from HSv.out.next hF
        have HBn := show Hid _ from hF.at HBv.out (fun e => e)
        have HNn : Hid (Unit → _) := fun (_ : Unit) => (HNv.out ()).fresh hF
        have cbn : w5.cell? ⟨w4.heap.size, 0, none⟩ = some (.slice sa sn sc) := by rw [Lib.cell_of_heap HBn.out]; rfl
        have HTR : Hid (Unit → _) := fun (_ : Unit) => hTR trivial
        clear HRU hF hTR HSv HBv HNv cb
        have HSv := HSn
        have HBv := HBn
        have HNv := HNn
        have cb := cbn
        clear HSn HBn HNn cbn
        have HIs : Hid (Unit → _) := fun (_ : Unit) => is_any _ (.slice ta tn tc) (M * 2 ^ N) (0) w5 (HNv.out ()) (HTR.out ()) HBb.out HSv.out.pw
        go_wp2_with fail
        refine (HIs.out ()).mono ?_
        rintro e w6 ⟨rfl, hF⟩
        have HSn := show Hid _ from HSv.out.next hF
        have HBn := show Hid _ from hF.at HBv.out (fun e => e)
        clear HIs hF HSv HBv HNv cb
        have HSv := HSn
        have HBv := HBn
        clear HSn HBn
        clear HTR HBb
        generalize w4.heap.size = bs at *
        have cx := HSv.out.cx
        have HDn : Hid (Unit → _) := fun (_ : Unit) => natDown_any _ M (N : Int) w6 (HNX.out _ HSv.out) HB.out HK.out.2.1
        rw [f1, f2] at HDn
        clear f1 f2
        go_wp2_with fail
        refine (HDn.out ()).mono ?_
        rintro e w7 ⟨v6, rfl, hN6, hF6⟩
        obtain ⟨aa1, an, ac1, rfl⟩ := hN6.shape
        have hb6 := hF6.at HBv.out (fun e => e)
        have c6 : w7.cell? ⟨bs, 0, none⟩ = some (.slice sa sn sc) := by rw [Lib.cell_of_heap hb6]; rfl
        have f6 : w7.frozen? ⟨bs, 0, none⟩ = false := Lib.frozen_of_heap hb6 0
        obtain ⟨hS7, hb7⟩ := One.set (HSv.out.next hF6) HPW.out hb6 (by have := HSZ4.out; omega) (by have := HSZ4.out; omega) (.slice aa1 an ac1)
        have HNn : Hid (Unit → Nm (w7.setCell ⟨bs, 0, none⟩ (.slice aa1 an ac1)) (.slice aa1 an ac1) (M / 2 ^ N)) := fun _ => nm_set hN6 hb6 (by decide) _ _
        have HSn := show Hid _ from hS7
        have HBn := show Hid _ from hb7
        have cb : (w7.setCell ⟨bs, 0, none⟩ (.slice aa1 an ac1)).cell? ⟨bs, 0, none⟩ = some (.slice aa1 an ac1) := by rw [Lib.cell_of_heap hb7]; rfl
        clear HDn hN6 hF6 hb6 hS7 hb7 HSv HBv cx
        have HSv := HSn
        have HBv := HBn
        have HNv := HNn
        clear HSn HBn HNn
        have HRD : Hid (Unit → _) := fun (_ : Unit) => refDown_any _ M N _ HSv.out.rm HB.out (by have := HK.out; omega)
        go_wp2_with fail
        refine (HRD.out ()).mono ?_
        rintro e w8 ⟨uv, rfl, hUR, hF⟩
        obtain ⟨ua, un, uc, rfl⟩ := hUR.shape
        have HSn := show Hid _ from HSv.out.next hF
        have HBn := show Hid _ from hF.at HBv.out (fun e => e)
        have HNn : Hid (Unit → _) := fun (_ : Unit) => (HNv.out ()).fresh hF
        have cbn : w8.cell? ⟨bs, 0, none⟩ = some (.slice aa1 an ac1) := by rw [Lib.cell_of_heap HBn.out]; rfl
        have HUR : Hid (Unit → _) := fun (_ : Unit) => hUR
        clear HRD hF hUR HSv HBv HNv cb
        have HSv := HSn
        have HBv := HBn
        have HNv := HNn
        have cb := cbn
        clear HSn HBn HNn cbn c6 f6
        have HIs : Hid (Unit → _) := fun (_ : Unit) => is_any _ (.slice ua un uc) (M / 2 ^ N) (0) w8 (HNv.out ()) (HUR.out ()) HNb.out HSv.out.pw
        go_wp2_with fail
        refine (HIs.out ()).mono ?_
        rintro e w9 ⟨rfl, hF⟩
        have HSn := show Hid _ from HSv.out.next hF
        have HBn := show Hid _ from hF.at HBv.out (fun e => e)
        clear HIs hF HSv HBv HNv cb
        have HSv := HSn
        have HBv := HBn
        clear HSn HBn
        clear HUR
      case' neg =>
        have hfd : decide (fitE (M * 2 ^ N) = 0) = false := decide_eq_false hfu
        have h41 := (HFit.out.2 hfu).1
        rw [hfd] at HRU
        rw [h41]
        rw [(HFit.out.2 hfu).2] at HNv
        clear hfu hfd h41
        go_wp2_with fail
        refine (HRU.out ()).mono ?_
        rintro e w5 ⟨tv, rfl, hTR, ⟨ta, tn, tc, rfl⟩, hF⟩
        have HSn := show Hid _ from HSv.out.next hF
        have HBn := show Hid _ from hF.at HBv.out (fun e => e)
        have HNn : Hid (Unit → _) := fun (_ : Unit) => (HNv.out ()).fresh hF
        have cbn : w5.cell? ⟨w4.heap.size, 0, none⟩ = some (.slice sa sn sc) := by rw [Lib.cell_of_heap HBn.out]; rfl
        clear HRU hF hTR HSv HBv HNv cb
        have HSv := HSn
        have HBv := HBn
        have HNv := HNn
        have cb := cbn
        clear HSn HBn HNn cbn
        have HIs : Hid (Unit → _) := fun (_ : Unit) => is_any _ (.slice none 0 0) (0) (41) w5 (HNv.out ()) (rn_nil _) (by decide) HSv.out.pw
        go_wp2_with fail
        refine (HIs.out ()).mono ?_
        rintro e w6 ⟨rfl, hF⟩
        have HSn := show Hid _ from HSv.out.next hF
        have HBn := show Hid _ from hF.at HBv.out (fun e => e)
        clear HIs hF HSv HBv HNv cb
        have HSv := HSn
        have HBv := HBn
        clear HSn HBn
        generalize w4.heap.size = bs at *
        have cx := HSv.out.cx
        have HDn : Hid (Unit → _) := fun (_ : Unit) => natDown_any _ M (N : Int) w6 (HNX.out _ HSv.out) HB.out HK.out.2.1
        rw [f1, f2] at HDn
        clear f1 f2
        go_wp2_with fail
        refine (HDn.out ()).mono ?_
        rintro e w7 ⟨v6, rfl, hN6, hF6⟩
        obtain ⟨aa1, an, ac1, rfl⟩ := hN6.shape
        have hb6 := hF6.at HBv.out (fun e => e)
        have c6 : w7.cell? ⟨bs, 0, none⟩ = some (.slice sa sn sc) := by rw [Lib.cell_of_heap hb6]; rfl
        have f6 : w7.frozen? ⟨bs, 0, none⟩ = false := Lib.frozen_of_heap hb6 0
        obtain ⟨hS7, hb7⟩ := One.set (HSv.out.next hF6) HPW.out hb6 (by have := HSZ4.out; omega) (by have := HSZ4.out; omega) (.slice aa1 an ac1)
        have HNn : Hid (Unit → Nm (w7.setCell ⟨bs, 0, none⟩ (.slice aa1 an ac1)) (.slice aa1 an ac1) (M / 2 ^ N)) := fun _ => nm_set hN6 hb6 (by decide) _ _
        have HSn := show Hid _ from hS7
        have HBn := show Hid _ from hb7
        have cb : (w7.setCell ⟨bs, 0, none⟩ (.slice aa1 an ac1)).cell? ⟨bs, 0, none⟩ = some (.slice aa1 an ac1) := by rw [Lib.cell_of_heap hb7]; rfl
        clear HDn hN6 hF6 hb6 hS7 hb7 HSv HBv cx
        have HSv := HSn
        have HBv := HBn
        have HNv := HNn
        clear HSn HBn HNn
        have HRD : Hid (Unit → _) := fun (_ : Unit) => refDown_any _ M N _ HSv.out.rm HB.out (by have := HK.out; omega)
        go_wp2_with fail
        refine (HRD.out ()).mono ?_
        rintro e w8 ⟨uv, rfl, hUR, hF⟩
        obtain ⟨ua, un, uc, rfl⟩ := hUR.shape
        have HSn := show Hid _ from HSv.out.next hF
        have HBn := show Hid _ from hF.at HBv.out (fun e => e)
        have HNn : Hid (Unit → _) := fun (_ : Unit) => (HNv.out ()).fresh hF
        have cbn : w8.cell? ⟨bs, 0, none⟩ = some (.slice aa1 an ac1) := by rw [Lib.cell_of_heap HBn.out]; rfl
        have HUR : Hid (Unit → _) := fun (_ : Unit) => hUR
        clear HRD hF hUR HSv HBv HNv cb
        have HSv := HSn
        have HBv := HBn
        have HNv := HNn
        have cb := cbn
        clear HSn HBn HNn cbn c6 f6
        have HIs : Hid (Unit → _) := fun (_ : Unit) => is_any _ (.slice ua un uc) (M / 2 ^ N) (0) w8 (HNv.out ()) (HUR.out ()) HNb.out HSv.out.pw
        go_wp2_with fail
        refine (HIs.out ()).mono ?_
        rintro e w9 ⟨rfl, hF⟩
        have HSn := show Hid _ from HSv.out.next hF
        have HBn := show Hid _ from hF.at HBv.out (fun e => e)
        clear HIs hF HSv HBv HNv cb
        have HSv := HSn
        have HBv := HBn
        clear HSn HBn
        clear HUR
    all_goals
      have cx := HSv.out.cx
      have HDn : Hid (Unit → _) := fun (_ : Unit) => natPower_any _ M k w9 (HNX.out _ HSv.out) HB.out HK.out.2.2.1 HK.out.2.2.2
      go_wp2_with fail
      refine (HDn.out ()).mono ?_
      rintro e wa ⟨v6, rfl, hN6, hF6⟩
      obtain ⟨ba1, bn, bc1, rfl⟩ := hN6.shape
      have hb6 := hF6.at HBv.out (fun e => e)
      have c6 : wa.cell? ⟨bs, 0, none⟩ = some (.slice aa1 an ac1) := by rw [Lib.cell_of_heap hb6]; rfl
      have f6 : wa.frozen? ⟨bs, 0, none⟩ = false := Lib.frozen_of_heap hb6 0
      obtain ⟨hS7, hb7⟩ := One.set (HSv.out.next hF6) HPW.out hb6 (by have := HSZ4.out; omega) (by have := HSZ4.out; omega) (.slice ba1 bn bc1)
      have HNn : Hid (Unit → Nm (wa.setCell ⟨bs, 0, none⟩ (.slice ba1 bn bc1)) (.slice ba1 bn bc1) (pwN M k)) := fun _ => nm_set hN6 hb6 (by decide) _ _
      have HSn := show Hid _ from hS7
      have HBn := show Hid _ from hb7
      have cb : (wa.setCell ⟨bs, 0, none⟩ (.slice ba1 bn bc1)).cell? ⟨bs, 0, none⟩ = some (.slice ba1 bn bc1) := by rw [Lib.cell_of_heap hb7]; rfl
      clear HDn hN6 hF6 hb6 hS7 hb7 HSv HBv cx
      have HSv := HSn
      have HBv := HBn
      have HNv := HNn
      clear HSn HBn HNn
      obtain ⟨PE, hPE⟩ : ∃ x, x = pwE M k := ⟨_, rfl⟩
      have HRP : Hid (Unit → _) := fun (_ : Unit) => refPower_any _ M k _ HSv.out.rm HB.out HK.out.2.2.1 HK.out.2.2.2
      rw [← hPE] at HRP ⊢
      clear hPE
      go_wp2_with fail
      refine (HRP.out ()).mono ?_
      rintro e wb ⟨pv, rfl, hPR, hF⟩
      obtain ⟨pa, pn, pc, rfl⟩ := hPR.shape
      have HSn := show Hid _ from HSv.out.next hF
      have HBn := show Hid _ from hF.at HBv.out (fun e => e)
      have HNn : Hid (Unit → _) := fun (_ : Unit) => (HNv.out ()).fresh hF
      have cbn : wb.cell? ⟨bs, 0, none⟩ = some (.slice ba1 bn bc1) := by rw [Lib.cell_of_heap HBn.out]; rfl
      have HPR : Hid (Unit → _) := fun (_ : Unit) => hPR
      clear HRP hF hPR HSv HBv HNv cb
      have HSv := HSn
      have HBv := HBn
      have HNv := HNn
      have cb := cbn
      clear HSn HBn HNn cbn c6 f6
      have HIs : Hid (Unit → _) := fun (_ : Unit) => is_any _ (.slice pa pn pc) (pwN M k) (PE) wb (HNv.out ()) (HPR.out ()) (pw_bl M k HB.out) HSv.out.pw
      go_wp2_with fail
      refine (HIs.out ()).mono ?_
      rintro e wc ⟨rfl, hF⟩
      have HSn := show Hid _ from HSv.out.next hF
      have HBn := show Hid _ from hF.at HBv.out (fun e => e)
      clear HIs hF HSv HBv HNv cb
      have HSv := HSn
      have HBv := HBn
      clear HSn HBn
      have cx := HSv.out.cx
      have HT1 : Hid (Unit → _) := fun (_ : Unit) => natText_any _ M wc (HNX.out _ HSv.out) (by have := HB.out; omega) HSv.out.pw
      go_wp2_with fail
      refine (HT1.out ()).mono ?_
      rintro e wd ⟨rfl, hF⟩
      have HSn := show Hid _ from HSv.out.next hF
      clear HT1 hF HSv cx HBv
      have HT2 : Hid (Unit → _) := fun (_ : Unit) => refText_any _ M wd HSn.out.rm (by have := HB.out; omega)
      go_wp2_with fail
      refine (HT2.out ()).mono ?_
      rintro e we ⟨rfl, hF⟩
      have HFr := show Hid _ from (HSn.out.next hF).fr
      clear HT2 hF HSn
      go_wp2
      go_ret
      exact ⟨by simp, HFr.out⟩
  · have hn' : decide (fitE M = 0) = false := decide_eq_false hfm
    have HFr := show Hid _ from HS3.out.fr
    clear HS3 c3
    go_wp2
    go_ret
    exact ⟨rfl, HFr.out⟩

set_option maxRecDepth 100000 in
theorem contract (H : Type) (enc : TypeId × Value → H) (W : World) (base : Nat) (args : Array Value) (ds gs : List (DataW H)) (before : List MemPlace)
    (hval : ∀ (j : Nat) t v, Tryz.f6.params[j]? = some t → args[j]? = some v → Value.okWide Tryz.prog W .any base t v)
    (hW : DataW.Whole enc Tryz.prog Tryz.f6.params.toList Rows.natShiftsSpec.vars false W args.toList ds gs before) (hbk : Rows.uptoSmall H (ds ++ gs) = true)
    (hsz : (DataW.weightsEach Tryz.prog (Tryz.f6.params.toList ++ []) (ds ++ gs)).all (· ≤ reachBytes) = true) (hL : laidMetH Tryz.prog Rows.natShiftsRow.laid W) :
    Calls Tryz.prog 6 args W fun e W' => ∃ v, e = .returned v ∧ Rows.natShiftsSpec.post enc Tryz.prog Tryz.f6 false true false false W args v W' := by
  have hW' := hW
  obtain ⟨p, q, hA0, hV, rfl, hfz, hnd⟩ := hW
  have hA : DataW.TrodAll enc Tryz.prog W 0 (fun _ => true) true Tryz.f6.params.toList args.toList ds p := hA0
  rw [Tryz.params6] at hA hval hsz
  obtain ⟨rfl, rfl⟩ := trodVars_none hV
  obtain ⟨v0, v1, v2, d0, d1, d2, p0, p1, p2, rfl, rfl, rfl, h0, h1, h2⟩ := trodAll_three hA
  obtain ⟨x1, rfl, rfl, rfl, w1⟩ := open_int Tryz.underlying3 (hval 1 3 v1 rfl rfl) h1
  obtain ⟨x2, rfl, rfl, rfl, w2⟩ := open_int Tryz.underlying3 (hval 2 3 v2 rfl rfl) h2
  obtain ⟨ao, ln, cp, rfl⟩ := okWide_slice Tryz.underlying37 (hval 0 37 v0 rfl rfl)
  have hbd := bulk_le hbk
  simp only [List.append_nil, Rows.uptoBulkAll] at hbd
  obtain ⟨f0, hf0⟩ := h0
  obtain ⟨A, hA1, hA2⟩ := dw_of (x := (d0, p0)) hf0 (by show Rows.uptoBulk d0 ≤ _; omega)
  obtain ⟨b1, b2⟩ := i64_of w1
  obtain ⟨b3, b4⟩ := i64_of w2
  refine (walk _ A x1 x2 W (pw_of_laid hL (by simp [Rows.natShiftsRow])) hA1 hA2 b1 b2 b3 b4).mono fun e W' ⟨he, hk⟩ => ?_
  subst he
  exact ⟨_, rfl, post_law rfl (by kernel_rfl) (by kernel_rfl) hW' rfl hk⟩

set_option maxRecDepth 100000 in
theorem laid_met (os : Os) : laidMet Tryz.prog Rows.natShiftsUptoRow.laid ((layIn (World.holding Tryz.prog os ⟨#[], #[], []⟩)).forCall (fun _ _ => 0) ⟨#[], #[.slice none 0 0, .int .i64 0, .int .i64 0], []⟩).memory :=
  laidMet_of_run' 8 (by kernel_rfl) (by kernel_rfl)
set_option maxRecDepth 100000 in
theorem reads (os : Os) {H : Type} (enc : TypeId × Value → H) : ∃ places, DataW.whole enc Tryz.prog ((layIn (World.holding Tryz.prog os ⟨#[], #[], []⟩)).forCall (fun _ _ => 0) ⟨#[], #[.slice none 0 0, .int .i64 0, .int .i64 0], []⟩).memory Tryz.f6.params.toList Rows.natShiftsSpec.vars false (#[.slice none 0 0, .int .i64 0, .int .i64 0] : Array Value).toList 8 = some ([.nil, .lit (.int .i64 0), .lit (.int .i64 0)], [], places) :=
  ⟨[], by kernel_rfl⟩

set_option maxRecDepth 100000 in
theorem lifted (os : Os) (started : os.Started) (H : Type) (enc : TypeId × Value → H) (F : Stop.Interp) :
    ReturnsInHanded {} Tryz.checked os 6 .any ((Rows.OpenSpec.upto Rows.natShiftsSpec).preRow enc Tryz.prog Tryz.f6 Rows.natShiftsUptoRow.domain false Rows.natShiftsUptoRow.laid) (((Rows.OpenSpec.upto Rows.natShiftsSpec).at F).post enc Tryz.prog Tryz.f6 false true false false) := by
  obtain ⟨places, hx⟩ := reads os enc
  refine returnsInHanded_of_row (C := Tryz.checked) (s := Rows.OpenSpec.upto Rows.natShiftsSpec) Tryz.own started (by kernel_rfl) Tryz.func6
    (witness_row_atRef (enc := enc) (C := Tryz.checked) false (layIn (World.holding Tryz.prog os ⟨#[], #[], []⟩)) #[.slice none 0 0, .int .i64 0, .int .i64 0] rfl (by kernel_rfl) (by kernel_rfl) (by kernel_rfl)
      (OpenSpec.preRow_of_cond 8 hx (by kernel_rfl) (fun k hk => by cases hk; kernel_rfl) (by kernel_rfl) (laid_met os))) ?_
  intro W base args ds gs before hval hW _ hc hsz hL _ _
  exact contract H enc W base args ds gs before hval hW (hc _ rfl) hsz hL

theorem said : Rows.NatShiftsUptoSaid :=
  OpenClaim.holds_of_cond 6 Tryz.f6 rfl rfl rfl rfl rfl rfl rfl ⟨rfl, rfl, rfl, rfl, rfl⟩ rfl rfl rfl rfl rfl (by kernel_rfl) Tryz.func6 (by kernel_rfl)
    (of_decide_eq_true (by kernel_rfl)) (by unfold Func.isWrapper; first | (rw [if_pos (by decide +kernel)]; kernel_rfl) | (rw [if_neg (by decide +kernel)]; exact ⟨rfl, rfl⟩))
    (fun os started H enc _ F => by rw [OpenClaim.pre_eq_preRow]; exact lifted os started H enc F)

theorem plain (f : FuncId) (fn : Func) (hf : Tryz.pinned.checked.prog.funcNamed Rows.natShiftsUptoRow.func = some f) (hfn : Tryz.pinned.checked.prog.funcs[f]? = some fn) :
    true = Tryz.pinned.checked.prog.looks [] ∧ ∀ (j : Nat) t, fn.params[j]? = some t → Tryz.pinned.checked.prog.wantsStandIn t = false := by
  obtain rfl : f = 6 := Option.some.inj ((show Tryz.prog.funcNamed Rows.natShiftsUptoRow.func = some 6 by kernel_rfl).symm.trans hf) |>.symm
  obtain rfl : fn = Tryz.f6 := (Option.some.inj (Tryz.func6.symm.trans hfn)).symm
  refine ⟨by kernel_rfl, fun j t ht => ?_⟩
  have hall : (Tryz.f6.params.toList.all fun u => !Tryz.prog.wantsStandIn u) = true := by kernel_rfl
  exact (show Tryz.prog.wantsStandIn t = false by simpa using List.all_eq_true.1 hall t (Array.mem_toList_iff.2 (Array.mem_of_getElem? ht)))

theorem card : Rows.NatShiftsUptoCardSaid :=
  Claim7.holds_tied_plain_at .later [] _ _ _ _ said (fun _ h => by cases h) (by kernel_rfl) (fun _ h => by cases h) natShiftsUpto_row_tie rfl ⟨rfl, rfl⟩ (by kernel_rfl) rfl plain (by kernel_rfl)

end Go.Proofs.YtdmjfmipalifpaaGreatDoor.LShifts
namespace Go.Proofs.YtdmjfmipalifpaaGreatDoor
theorem natShifts_upto_card : Rows.NatShiftsUptoCardSaid := LShifts.card
end Go.Proofs.YtdmjfmipalifpaaGreatDoor
