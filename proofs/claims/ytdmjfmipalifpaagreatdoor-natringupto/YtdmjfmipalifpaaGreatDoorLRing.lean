/-
  For every three lists of numbers of 32 bits the statement NatRing answers true: the laws of sums and products; its card, tied to the program's text.
-/
import Derived.Test.YtdmjfmipalifpaaGreatDoorEnv
import Derived.Test.YtdmjfmipalifpaaGreatDoorSuc
import Derived.Test.YtdmjfmipalifpaaGreatDoorLkd
import Derived.Deep.DeepWitnessRowRef
namespace Go.Proofs.YtdmjfmipalifpaaGreatDoor.LRing
open Go.ChangeShapes Go.WideShapes Go.ChangeAt Go.RowKit

set_option maxHeartbeats 4000000 in
set_option maxRecDepth 100000 in
theorem walk (av bv cv : Value) (A B C : List Nat) (w : World) (hT : Pw w) (ha : Dw .u32 4294967296 (fun _ => True) w av A) (hla : A.length ≤ 1048576) (hb : Dw .u32 4294967296 (fun _ => True) w bv B) (hlb : B.length ≤ 1048576) (hc : Dw .u32 4294967296 (fun _ => True) w cv C) (hlc : C.length ≤ 1048576) :
    Calls Tryz.prog 7 #[av, bv, cv] w fun e w' => e = .returned (.bool true) ∧ Fresh w w' := by
  have haw := fun W (hF : Fresh w W) => awake_any W (hT.fresh hF)
  have hga := given_any av A w ha hla
  have hgb := fun W (hF : Fresh w W) => given_any bv B W (hb.fresh hF) hlb
  have hgc := fun W (hF : Fresh w W) => given_any cv C W (hc.fresh hF) hlc
  obtain ⟨aa, ac, rfl⟩ := ha.shape
  obtain ⟨ba, bc, rfl⟩ := hb.shape
  obtain ⟨ca, cc, rfl⟩ := hc.shape
  have HB : Hid (bl (fitN (val 4294967296 A)) ≤ 65536 ∧ bl (fitN (val 4294967296 B)) ≤ 65536 ∧ bl (fitN (val 4294967296 C)) ≤ 65536) := ⟨bl_fit _, bl_fit _, bl_fit _⟩
  generalize fitN (val 4294967296 A) = X at *
  generalize fitN (val 4294967296 B) = Y at *
  generalize fitN (val 4294967296 C) = Z at *
  generalize decide (fitE (val 4294967296 A) = 0) = fa at *
  generalize decide (fitE (val 4294967296 B) = 0) = fb at *
  generalize decide (fitE (val 4294967296 C) = 0) = fc at *
  have HAW : Hid (Unit → _) := fun (_ : Unit) => haw
  have HGA : Hid (Unit → _) := fun (_ : Unit) => hga
  have HGB : Hid (Unit → _) := fun (_ : Unit) => hgb
  have HGC : Hid (Unit → _) := fun (_ : Unit) => hgc
  clear haw hga hgb hgc ha hb hc hT hla hlb hlc
  generalize A.length = na at *
  generalize B.length = nb at *
  generalize C.length = nc at *
  go_enter Tryz.func7, Tryz.ntmps7
  go_wp2_with fail
  refine (HGA.out ()).mono ?_
  rintro e w1 ⟨mv, xv, rfl, _, hN1, hF1⟩
  obtain ⟨xa, xn, xc, rfl⟩ := hN1.shape
  have HF1 : Hid (Fresh w (w1.alloc (.cells #[.slice xa xn xc] 26))) := hF1.alloc _
  have HE1 : Hid (Env (w1.alloc (.cells #[.slice xa xn xc] 26)) [(w1.heap.size, .slice xa xn xc, X)]) := (Env.nil w1).made hN1
  clear hF1 hN1 HGA
  go_wp2_with fail
  refine (HGB.out () _ HF1.out).mono ?_
  rintro e w2 ⟨nv, yv, rfl, _, hN2, hF2⟩
  obtain ⟨ya, yn, yc, rfl⟩ := hN2.shape
  have HF2 : Hid (Fresh w (w2.alloc (.cells #[.slice ya yn yc] 26))) := (HF1.out.trans hF2 (fun _ _ e => e)).alloc _
  have HE2 := show Hid _ from (HE1.out.next hF2).made hN2
  clear hF2 hN2 HGB HF1 HE1
  generalize w1.heap.size = bx at *
  go_wp2_with fail
  refine (HGC.out () _ HF2.out).mono ?_
  rintro e w3 ⟨ov, zv, rfl, _, hN3, hF3⟩
  obtain ⟨za, zn, zc, rfl⟩ := hN3.shape
  have HF3 : Hid (Fresh w (w3.alloc (.cells #[.slice za zn zc] 26))) := (HF2.out.trans hF3 (fun _ _ e => e)).alloc _
  have HE3 := show Hid _ from (HE2.out.next hF3).made hN3
  clear hF3 hN3 HGC HF2 HE2
  generalize w2.heap.size = by' at *
  go_wp2_with fail
  refine (HAW.out () _ HF3.out).mono ?_
  rintro e w4 ⟨rfl, hF4⟩
  have HF4 : Hid (Fresh w w4) := HF3.out.trans hF4 (fun _ _ e => e)
  have HE4 := show Hid _ from HE3.out.next hF4
  clear hF4 HAW HF3 HE3
  generalize w3.heap.size = bz at *
  -- x + y
  have c1 := (HE4.out.g (b := bx) (v := .slice xa xn xc) (M := X) (by simp)).c
  have c2 := (HE4.out.g (b := by') (v := .slice ya yn yc) (M := Y) (by simp)).c
  have HC : Hid (Unit → _) := fun (_ : Unit) => natAdd_any (.slice xa xn xc) (.slice ya yn yc) X Y w4 (HE4.out.g (b := bx) (by simp)).nm (HE4.out.g (b := by') (by simp)).nm (by have := HB.out; omega)
  go_wp2_with fail
  refine (HC.out ()).mono ?_
  rintro e w5 ⟨sv, rfl, hN5, hF5⟩
  obtain ⟨sa, sn, sc, rfl⟩ := hN5.shape
  have HF5 : Hid (Fresh w (w5.alloc (.cells #[.slice sa sn sc] 26))) := (HF4.out.trans hF5 (fun _ _ e => e)).alloc _
  have HE5 := show Hid _ from (HE4.out.next hF5).made hN5
  clear hF5 hN5 HC HF4 HE4 c1 c2
  -- y + x
  have c1 := (HE5.out.g (b := bx) (v := .slice xa xn xc) (M := X) (by simp)).c
  have c2 := (HE5.out.g (b := by') (v := .slice ya yn yc) (M := Y) (by simp)).c
  have HC : Hid (Unit → _) := fun (_ : Unit) => natAdd_any (.slice ya yn yc) (.slice xa xn xc) Y X _ (HE5.out.g (b := by') (by simp)).nm (HE5.out.g (b := bx) (by simp)).nm (by have := HB.out; omega)
  rw [Nat.add_comm Y X] at HC
  go_wp2_with fail
  refine (HC.out ()).mono ?_
  rintro e w6 ⟨tv, rfl, hN6, hF6⟩
  obtain ⟨ta, tn, tc, rfl⟩ := hN6.shape
  have HF6 : Hid (Fresh w (w6.alloc (.cells #[.slice ta tn tc] 26))) := (HF5.out.trans hF6 (fun _ _ e => e)).alloc _
  have HE6 := show Hid _ from (HE5.out.next hF6).made hN6
  clear hF6 hN6 HC HF5 HE5 c1 c2
  generalize w5.heap.size = bs at *
  have c1 := (HE6.out.g (b := bs) (v := .slice sa sn sc) (M := fitN (X + Y)) (by simp)).c
  have c2 := (HE6.out.g (b := w6.heap.size) (v := .slice ta tn tc) (M := fitN (X + Y)) (by simp)).c
  have HC : Hid (Unit → _) := fun (_ : Unit) => natCompare_any (.slice sa sn sc) (.slice ta tn tc) (fitN (X + Y)) (fitN (X + Y)) _ (HE6.out.g (b := bs) (by simp)).nm (HE6.out.g (b := w6.heap.size) (by simp)).nm
  rw [cmpN_eq] at HC
  obtain ⟨S, hS⟩ : ∃ S, S = fitN (X + Y) := ⟨_, rfl⟩
  have HBS : Hid (bl S ≤ 65536) := by rw [hS]; exact bl_fit _
  rw [← hS] at HE6
  obtain ⟨FE, hFE⟩ : ∃ F, F = fitE (X + Y) := ⟨_, rfl⟩
  rw [← hFE]
  have HSE : Hid (S = fitN (X + Y) ∧ FE = fitE (X + Y)) := ⟨hS, hFE⟩
  clear hS hFE
  go_wp2_with fail
  refine (HC.out ()).mono ?_
  rintro e w7 ⟨rfl, hF7⟩
  have HF7 : Hid (Fresh w w7) := HF6.out.trans hF7 (fun _ _ e => e)
  have HE7 := show Hid _ from HE6.out.next hF7
  clear hF7 HC HF6 HE6 c1 c2
  generalize w6.heap.size = bt at *
  rcases fit_cases (X + Y) with ⟨q1, q2, q3⟩ | ⟨q1, q2⟩
  case' inl =>
    have hFE0 : FE = 0 := HSE.out.2.trans q1
    have hSX : S = X + Y := HSE.out.1.trans q2
    have c1 := (HE7.out.g (b := bs) (v := .slice sa sn sc) (M := S) (by simp)).c
    have c2 := (HE7.out.g (b := by') (v := .slice ya yn yc) (M := Y) (by simp)).c
    have HC : Hid (Unit → _) := fun (_ : Unit) => natSub_any (.slice sa sn sc) (.slice ya yn yc) S Y w7 (HE7.out.g (b := bs) (by simp)).nm (HE7.out.g (b := by') (by simp)).nm HBS.out
    rw [(sb_in (M := S) (N := Y) (by omega)).1, (sb_in (M := S) (N := Y) (by omega)).2, show S - Y = X by omega] at HC
    have HSX : Hid (S = X + Y) := hSX
    clear q1 q2 hSX HSE
    subst hFE0
    go_wp2_with fail
    refine (HC.out ()).mono ?_
    rintro e w8 ⟨v, rfl, hN, hF⟩
    obtain ⟨ba', bn', bc', rfl⟩ := hN.shape
    have HF8 : Hid (Fresh w (w8.alloc (.cells #[.slice ba' bn' bc'] 26))) := (HF7.out.trans hF (fun _ _ e => e)).alloc _
    have HE8 := show Hid _ from (HE7.out.next hF).made hN
    clear hF hN HC HF7 HE7 c1 c2
    have c1 := (HE8.out.g (b := w8.heap.size) (v := .slice ba' bn' bc') (M := X) (by simp)).c
    have c2 := (HE8.out.g (b := bx) (v := .slice xa xn xc) (M := X) (by simp)).c
    have HC : Hid (Unit → _) := fun (_ : Unit) => natCompare_any (.slice ba' bn' bc') (.slice xa xn xc) X X _ (HE8.out.g (b := w8.heap.size) (by simp)).nm (HE8.out.g (b := bx) (by simp)).nm
    rw [cmpN_eq] at HC
    go_wp2_with fail
    refine (HC.out ()).mono ?_
    rintro e wv ⟨rfl, hF⟩
    have HFv : Hid (Fresh w wv) := HF8.out.trans hF (fun _ _ e => e)
    have HEv := show Hid _ from HE8.out.next hF
    clear hF HC HF8 HE8 c1 c2
    generalize w8.heap.size = bb at *
  case' inr =>
    have hFE0 : FE = 41 := HSE.out.2.trans q1
    clear q1 q2 HSE
    subst hFE0
    obtain ⟨wv, hwv⟩ : ∃ v, v = w7 := ⟨_, rfl⟩
    subst hwv
    have HFv := HF7
    have HEv := HE7
    clear HF7 HE7
  all_goals
    have c1 := (HEv.out.g (b := bx) (v := .slice xa xn xc) (M := X) (by simp)).c
    have c2 := (HEv.out.g (b := bz) (v := .slice za zn zc) (M := Z) (by simp)).c
    have HC : Hid (Unit → _) := fun (_ : Unit) => natMul_any (.slice xa xn xc) (.slice za zn zc) X Z _ (HEv.out.g (b := bx) (by simp)).nm (HEv.out.g (b := bz) (by simp)).nm (by have := HB.out; have := HBS.out; omega)
    go_wp2_with fail
    refine (HC.out ()).mono ?_
    rintro e wp ⟨v, rfl, hN, hF⟩
    obtain ⟨pa, pn, pc, rfl⟩ := hN.shape
    have HFn : Hid (Fresh w (wp.alloc (.cells #[.slice pa pn pc] 26))) := (HFv.out.trans hF (fun _ _ e => e)).alloc _
    have HEn := show Hid _ from (HEv.out.next hF).made hN
    clear hF hN HC HFv HEv c1 c2
    have HFv := HFn
    have HEv := HEn
    clear HFn HEn
    have c1 := (HEv.out.g (b := by') (v := .slice ya yn yc) (M := Y) (by simp)).c
    have c2 := (HEv.out.g (b := bz) (v := .slice za zn zc) (M := Z) (by simp)).c
    have HC : Hid (Unit → _) := fun (_ : Unit) => natMul_any (.slice ya yn yc) (.slice za zn zc) Y Z _ (HEv.out.g (b := by') (by simp)).nm (HEv.out.g (b := bz) (by simp)).nm (by have := HB.out; have := HBS.out; omega)
    go_wp2_with fail
    refine (HC.out ()).mono ?_
    rintro e wq ⟨v, rfl, hN, hF⟩
    obtain ⟨qa, qn, qc, rfl⟩ := hN.shape
    have HFn : Hid (Fresh w (wq.alloc (.cells #[.slice qa qn qc] 26))) := (HFv.out.trans hF (fun _ _ e => e)).alloc _
    have HEn := show Hid _ from (HEv.out.next hF).made hN
    clear hF hN HC HFv HEv c1 c2
    have HFv := HFn
    have HEv := HEn
    clear HFn HEn
    generalize wp.heap.size = wpb at *
    have c1 := (HEv.out.g (b := bs) (v := .slice sa sn sc) (M := S) (by simp)).c
    have c2 := (HEv.out.g (b := bz) (v := .slice za zn zc) (M := Z) (by simp)).c
    have HC : Hid (Unit → _) := fun (_ : Unit) => natMul_any (.slice sa sn sc) (.slice za zn zc) S Z _ (HEv.out.g (b := bs) (by simp)).nm (HEv.out.g (b := bz) (by simp)).nm (by have := HB.out; have := HBS.out; omega)
    go_wp2_with fail
    refine (HC.out ()).mono ?_
    rintro e wr ⟨v, rfl, hN, hF⟩
    obtain ⟨ra, rn, rc, rfl⟩ := hN.shape
    have HFn : Hid (Fresh w (wr.alloc (.cells #[.slice ra rn rc] 26))) := (HFv.out.trans hF (fun _ _ e => e)).alloc _
    have HEn := show Hid _ from (HEv.out.next hF).made hN
    clear hF hN HC HFv HEv c1 c2
    have HFv := HFn
    have HEv := HEn
    clear HFn HEn
    generalize wq.heap.size = wqb at *
  all_goals first
    | have hsx := HSX
      clear hsx
      rcases fit_cases (X * Z) with ⟨q1, q2, _⟩ | ⟨q1, _⟩
      case' inl =>
        rcases fit_cases (Y * Z) with ⟨r1, r2, _⟩ | ⟨r1, _⟩
        case' inl =>
          rw [q1, r1]
          obtain ⟨KE, hKE⟩ : ∃ F, F = fitE (S * Z) := ⟨_, rfl⟩
          rw [← hKE]
          have HQ2 : Hid (fitN (X * Z) = X * Z ∧ fitN (Y * Z) = Y * Z ∧ KE = fitE (S * Z)) := ⟨q2, r2, hKE⟩
          clear q1 r1 q2 r2 hKE
          have c1 := (HEv.out.g (b := wpb) (v := .slice pa pn pc) (M := fitN (X * Z)) (by simp)).c
          have c2 := (HEv.out.g (b := wqb) (v := .slice qa qn qc) (M := fitN (Y * Z)) (by simp)).c
          have HC : Hid (Unit → _) := fun (_ : Unit) => natAdd_any (.slice pa pn pc) (.slice qa qn qc) (fitN (X * Z)) (fitN (Y * Z)) _ (HEv.out.g (b := wpb) (by simp)).nm (HEv.out.g (b := wqb) (by simp)).nm (by have h1 := bl_fit (X * Z); have h2 := bl_fit (Y * Z); omega)
          rw [HQ2.out.1, HQ2.out.2.1, ← Nat.add_mul, ← HSX.out, ← HQ2.out.2.2] at HC
          go_wp2_with fail
          refine (HC.out ()).mono ?_
          rintro e wm ⟨v, rfl, hN, hF⟩
          obtain ⟨ma, mn, mc, rfl⟩ := hN.shape
          have HFn : Hid (Fresh w (wm.alloc (.cells #[.slice ma mn mc] 26))) := (HFv.out.trans hF (fun _ _ e => e)).alloc _
          have HEn := show Hid _ from (HEv.out.next hF).made hN
          clear hF hN HC HFv HEv c1 c2
          have HFv := HFn
          have HEv := HEn
          clear HFn HEn
          generalize wr.heap.size = wrb at *
          have c1 := (HEv.out.g (b := wm.heap.size) (v := .slice ma mn mc) (M := fitN (S * Z)) (by simp)).c
          have c2 := (HEv.out.g (b := wrb) (v := .slice ra rn rc) (M := fitN (S * Z)) (by simp)).c
          have HC : Hid (Unit → _) := fun (_ : Unit) => natCompare_any (.slice ma mn mc) (.slice ra rn rc) (fitN (S * Z)) (fitN (S * Z)) _ (HEv.out.g (b := wm.heap.size) (by simp)).nm (HEv.out.g (b := wrb) (by simp)).nm
          rw [cmpN_eq] at HC
          go_wp2_with fail
          refine (HC.out ()).mono ?_
          rintro e wc ⟨rfl, hF⟩
          have HFn : Hid (Fresh w wc) := HFv.out.trans hF (fun _ _ e => e)
          have HEn := show Hid _ from HEv.out.next hF
          clear hF HC HFv HEv c1 c2
          have HFv := HFn
          have HEv := HEn
          clear HFn HEn
          generalize wm.heap.size = wmb at *
          clear HQ2
        case' inr =>
          rw [q1, r1]
          clear q1 r1 q2
          generalize wr.heap.size = wrb at HEv
      case' inr =>
        rw [q1]
        clear q1
        generalize wr.heap.size = wrb at HEv
    | generalize wr.heap.size = wrb at HEv
  all_goals
    generalize fitE (X * Z) = GE at *
    generalize fitE (Y * Z) = HE at *
    generalize fitE (S * Z) = KE at *
    have c1 := (HEv.out.g (b := bx) (v := .slice xa xn xc) (M := X) (by simp)).c
    have c2 := (HEv.out.g (b := by') (v := .slice ya yn yc) (M := Y) (by simp)).c
    have HC : Hid (Unit → _) := fun (_ : Unit) => natMul_any (.slice xa xn xc) (.slice ya yn yc) (X) (Y) _ (HEv.out.g (b := bx) (by simp)).nm (HEv.out.g (b := by') (by simp)).nm (by have := HB.out; have := HBS.out; omega)
    go_wp2_with fail
    refine (HC.out ()).mono ?_
    rintro e wu ⟨v, rfl, hN, hF⟩
    obtain ⟨ua, un, uc, rfl⟩ := hN.shape
    have HFn : Hid (Fresh w (wu.alloc (.cells #[.slice ua un uc] 26))) := (HFv.out.trans hF (fun _ _ e => e)).alloc _
    have HEn := show Hid _ from (HEv.out.next hF).made hN
    clear hF hN HC HFv HEv c1 c2
    have HFv := HFn
    have HEv := HEn
    clear HFn HEn
    have c1 := (HEv.out.g (b := by') (v := .slice ya yn yc) (M := Y) (by simp)).c
    have c2 := (HEv.out.g (b := bx) (v := .slice xa xn xc) (M := X) (by simp)).c
    have HC : Hid (Unit → _) := fun (_ : Unit) => natMul_any (.slice ya yn yc) (.slice xa xn xc) (Y) (X) _ (HEv.out.g (b := by') (by simp)).nm (HEv.out.g (b := bx) (by simp)).nm (by have := HB.out; have := HBS.out; omega)
    rw [Nat.mul_comm Y X] at HC
    go_wp2_with fail
    refine (HC.out ()).mono ?_
    rintro e wz ⟨v, rfl, hN, hF⟩
    obtain ⟨za1, zn1, zc1, rfl⟩ := hN.shape
    have HFn : Hid (Fresh w (wz.alloc (.cells #[.slice za1 zn1 zc1] 26))) := (HFv.out.trans hF (fun _ _ e => e)).alloc _
    have HEn := show Hid _ from (HEv.out.next hF).made hN
    clear hF hN HC HFv HEv c1 c2
    have HFv := HFn
    have HEv := HEn
    clear HFn HEn
    generalize wu.heap.size = wub at *
    obtain ⟨UE, hUE⟩ : ∃ F, F = fitE (X * Y) := ⟨_, rfl⟩
    rw [← hUE]
    clear hUE
    have c1 := (HEv.out.g (b := wub) (v := .slice ua un uc) (M := fitN (X * Y)) (by simp)).c
    have c2 := (HEv.out.g (b := wz.heap.size) (v := .slice za1 zn1 zc1) (M := fitN (X * Y)) (by simp)).c
    have HC : Hid (Unit → _) := fun (_ : Unit) => natCompare_any (.slice ua un uc) (.slice za1 zn1 zc1) (fitN (X * Y)) (fitN (X * Y)) _ (HEv.out.g (b := wub) (by simp)).nm (HEv.out.g (b := wz.heap.size) (by simp)).nm
    rw [cmpN_eq] at HC
    go_wp2_with fail
    refine (HC.out ()).mono ?_
    rintro e wt ⟨rfl, hF⟩
    have HFn : Hid (Fresh w wt) := HFv.out.trans hF (fun _ _ e => e)
    have HEn := show Hid _ from HEv.out.next hF
    clear hF HC HFv HEv c1 c2
    have HFv := HFn
    have HEv := HEn
    clear HFn HEn
    generalize wz.heap.size = wzb at *
    have c1 := (HEv.out.g (b := bx) (v := .slice xa xn xc) (M := X) (by simp)).c
    have c2 := (HEv.out.g (b := bx) (v := .slice xa xn xc) (M := X) (by simp)).c
    have HC : Hid (Unit → _) := fun (_ : Unit) => natMul_any (.slice xa xn xc) (.slice xa xn xc) (X) (X) _ (HEv.out.g (b := bx) (by simp)).nm (HEv.out.g (b := bx) (by simp)).nm (by have := HB.out; have := HBS.out; omega)
    go_wp2_with fail
    refine (HC.out ()).mono ?_
    rintro e wk ⟨v, rfl, hN, hF⟩
    obtain ⟨ka, kn, kc, rfl⟩ := hN.shape
    have HFn : Hid (Fresh w (wk.alloc (.cells #[.slice ka kn kc] 26))) := (HFv.out.trans hF (fun _ _ e => e)).alloc _
    have HEn := show Hid _ from (HEv.out.next hF).made hN
    clear hF hN HC HFv HEv c1 c2
    have HFv := HFn
    have HEv := HEn
    clear HFn HEn
    have c1 := (HEv.out.g (b := bx) (v := .slice xa xn xc) (M := X) (by simp)).c
    have HC : Hid (Unit → _) := fun (_ : Unit) => natPower_any (.slice xa xn xc) X 2 _ (HEv.out.g (b := bx) (by simp)).nm (by have := HB.out; omega) (by omega) (by omega)
    rw [(sq_pw X).1, (sq_pw X).2] at HC
    go_wp2_with fail
    refine (HC.out ()).mono ?_
    rintro e wl ⟨v, rfl, hN, hF⟩
    obtain ⟨la, ln, lc, rfl⟩ := hN.shape
    have HFn : Hid (Fresh w (wl.alloc (.cells #[.slice la ln lc] 26))) := (HFv.out.trans hF (fun _ _ e => e)).alloc _
    have HEn := show Hid _ from (HEv.out.next hF).made hN
    clear hF hN HC HFv HEv c1
    have HFv := HFn
    have HEv := HEn
    clear HFn HEn
    generalize wk.heap.size = wkb at *
    obtain ⟨QE, hQE⟩ : ∃ F, F = fitE (X * X) := ⟨_, rfl⟩
    rw [← hQE]
    clear hQE
    have c1 := (HEv.out.g (b := wkb) (v := .slice ka kn kc) (M := fitN (X * X)) (by simp)).c
    have c2 := (HEv.out.g (b := wl.heap.size) (v := .slice la ln lc) (M := fitN (X * X)) (by simp)).c
    have HC : Hid (Unit → _) := fun (_ : Unit) => natCompare_any (.slice ka kn kc) (.slice la ln lc) (fitN (X * X)) (fitN (X * X)) _ (HEv.out.g (b := wkb) (by simp)).nm (HEv.out.g (b := wl.heap.size) (by simp)).nm
    rw [cmpN_eq] at HC
    go_wp2_with fail
    refine (HC.out ()).mono ?_
    rintro e wend ⟨rfl, hF⟩
    have HFn : Hid (Fresh w wend) := HFv.out.trans hF (fun _ _ e => e)
    have HEn := show Hid _ from HEv.out.next hF
    clear hF HC HFv HEv c1 c2
    have HFv := HFn
    have HEv := HEn
    clear HFn HEn
    clear HEv
    go_wp2
    go_ret
    exact ⟨by simp, HFv.out⟩

set_option maxRecDepth 100000 in
theorem contract (H : Type) (enc : TypeId × Value → H) (W : World) (base : Nat) (args : Array Value) (ds gs : List (DataW H)) (before : List MemPlace)
    (hval : ∀ (j : Nat) t v, Tryz.f7.params[j]? = some t → args[j]? = some v → Value.okWide Tryz.prog W .any base t v)
    (hW : DataW.Whole enc Tryz.prog Tryz.f7.params.toList Rows.natRingSpec.vars false W args.toList ds gs before) (hbk : Rows.uptoSmall H (ds ++ gs) = true)
    (hsz : (DataW.weightsEach Tryz.prog (Tryz.f7.params.toList ++ []) (ds ++ gs)).all (· ≤ reachBytes) = true) (hL : laidMetH Tryz.prog Rows.natRingRow.laid W) :
    Calls Tryz.prog 7 args W fun e W' => ∃ v, e = .returned v ∧ Rows.natRingSpec.post enc Tryz.prog Tryz.f7 false true false false W args v W' := by
  have hW' := hW
  obtain ⟨p, q, hA0, hV, rfl, hfz, hnd⟩ := hW
  have hA : DataW.TrodAll enc Tryz.prog W 0 (fun _ => true) true Tryz.f7.params.toList args.toList ds p := hA0
  rw [Tryz.params7] at hA hval hsz
  obtain ⟨rfl, rfl⟩ := trodVars_none hV
  obtain ⟨v0, v1, v2, d0, d1, d2, p0, p1, p2, rfl, rfl, rfl, h0, h1, h2⟩ := trodAll_three hA
  obtain ⟨ao, ln, cp, rfl⟩ := okWide_slice Tryz.underlying37 (hval 0 37 v0 rfl rfl)
  obtain ⟨bo, lm, cq, rfl⟩ := okWide_slice Tryz.underlying37 (hval 1 37 v1 rfl rfl)
  obtain ⟨co, lk, cr, rfl⟩ := okWide_slice Tryz.underlying37 (hval 2 37 v2 rfl rfl)
  have hbd := bulk_le hbk
  simp only [List.append_nil, Rows.uptoBulkAll] at hbd
  obtain ⟨f0, hf0⟩ := h0
  obtain ⟨f1, hf1⟩ := h1
  obtain ⟨f2, hf2⟩ := h2
  obtain ⟨A, hA1, hA2⟩ := dw_of (x := (d0, p0)) hf0 (by show Rows.uptoBulk d0 ≤ _; omega)
  obtain ⟨B, hB1, hB2⟩ := dw_of (x := (d1, p1)) hf1 (by show Rows.uptoBulk d1 ≤ _; omega)
  obtain ⟨C, hC1, hC2⟩ := dw_of (x := (d2, p2)) hf2 (by show Rows.uptoBulk d2 ≤ _; omega)
  refine (walk _ _ _ A B C W (pw_of_laid hL (by simp [Rows.natRingRow])) hA1 hA2 hB1 hB2 hC1 hC2).mono fun e W' ⟨he, hk⟩ => ?_
  subst he
  exact ⟨_, rfl, post_law rfl (by kernel_rfl) (by kernel_rfl) hW' rfl hk⟩

set_option maxRecDepth 100000 in
theorem laid_met (os : Os) : laidMet Tryz.prog Rows.natRingUptoRow.laid ((layIn (World.holding Tryz.prog os ⟨#[], #[], []⟩)).forCall (fun _ _ => 0) ⟨#[], #[.slice none 0 0, .slice none 0 0, .slice none 0 0], []⟩).memory :=
  laidMet_of_run' 8 (by kernel_rfl) (by kernel_rfl)
set_option maxRecDepth 100000 in
theorem reads (os : Os) {H : Type} (enc : TypeId × Value → H) : ∃ places, DataW.whole enc Tryz.prog ((layIn (World.holding Tryz.prog os ⟨#[], #[], []⟩)).forCall (fun _ _ => 0) ⟨#[], #[.slice none 0 0, .slice none 0 0, .slice none 0 0], []⟩).memory Tryz.f7.params.toList Rows.natRingSpec.vars false (#[.slice none 0 0, .slice none 0 0, .slice none 0 0] : Array Value).toList 8 = some ([.nil, .nil, .nil], [], places) :=
  ⟨[], by kernel_rfl⟩

set_option maxRecDepth 100000 in
theorem lifted (os : Os) (started : os.Started) (H : Type) (enc : TypeId × Value → H) (F : Stop.Interp) :
    ReturnsInHanded {} Tryz.checked os 7 .any ((Rows.OpenSpec.upto Rows.natRingSpec).preRow enc Tryz.prog Tryz.f7 Rows.natRingUptoRow.domain false Rows.natRingUptoRow.laid) (((Rows.OpenSpec.upto Rows.natRingSpec).at F).post enc Tryz.prog Tryz.f7 false true false false) := by
  obtain ⟨places, hx⟩ := reads os enc
  refine returnsInHanded_of_row (C := Tryz.checked) (s := Rows.OpenSpec.upto Rows.natRingSpec) Tryz.own started (by kernel_rfl) Tryz.func7
    (witness_row_atRef (enc := enc) (C := Tryz.checked) false (layIn (World.holding Tryz.prog os ⟨#[], #[], []⟩)) #[.slice none 0 0, .slice none 0 0, .slice none 0 0] rfl (by kernel_rfl) (by kernel_rfl) (by kernel_rfl)
      (OpenSpec.preRow_of_cond 8 hx (by kernel_rfl) (fun k hk => by cases hk; kernel_rfl) (by kernel_rfl) (laid_met os))) ?_
  intro W base args ds gs before hval hW _ hc hsz hL _ _
  exact contract H enc W base args ds gs before hval hW (hc _ rfl) hsz hL

theorem said : Rows.NatRingUptoSaid :=
  OpenClaim.holds_of_cond 7 Tryz.f7 rfl rfl rfl rfl rfl rfl rfl ⟨rfl, rfl, rfl, rfl, rfl⟩ rfl rfl rfl rfl rfl (by kernel_rfl) Tryz.func7 (by kernel_rfl)
    (of_decide_eq_true (by kernel_rfl)) (by unfold Func.isWrapper; first | (rw [if_pos (by decide +kernel)]; kernel_rfl) | (rw [if_neg (by decide +kernel)]; exact ⟨rfl, rfl⟩))
    (fun os started H enc _ F => by rw [OpenClaim.pre_eq_preRow]; exact lifted os started H enc F)

theorem plain (f : FuncId) (fn : Func) (hf : Tryz.pinned.checked.prog.funcNamed Rows.natRingUptoRow.func = some f) (hfn : Tryz.pinned.checked.prog.funcs[f]? = some fn) :
    true = Tryz.pinned.checked.prog.looks [] ∧ ∀ (j : Nat) t, fn.params[j]? = some t → Tryz.pinned.checked.prog.wantsStandIn t = false := by
  obtain rfl : f = 7 := Option.some.inj ((show Tryz.prog.funcNamed Rows.natRingUptoRow.func = some 7 by kernel_rfl).symm.trans hf) |>.symm
  obtain rfl : fn = Tryz.f7 := (Option.some.inj (Tryz.func7.symm.trans hfn)).symm
  refine ⟨by kernel_rfl, fun j t ht => ?_⟩
  have hall : (Tryz.f7.params.toList.all fun u => !Tryz.prog.wantsStandIn u) = true := by kernel_rfl
  exact (show Tryz.prog.wantsStandIn t = false by simpa using List.all_eq_true.1 hall t (Array.mem_toList_iff.2 (Array.mem_of_getElem? ht)))

theorem card : Rows.NatRingUptoCardSaid :=
  Claim7.holds_tied_plain_at .later [] _ _ _ _ said (fun _ h => by cases h) (by kernel_rfl) (fun _ h => by cases h) natRingUpto_row_tie rfl ⟨rfl, rfl⟩ (by kernel_rfl) rfl plain (by kernel_rfl)

end Go.Proofs.YtdmjfmipalifpaaGreatDoor.LRing
namespace Go.Proofs.YtdmjfmipalifpaaGreatDoor
theorem natRing_upto_card : Rows.NatRingUptoCardSaid := LRing.card
end Go.Proofs.YtdmjfmipalifpaaGreatDoor
