/-
  Batch, the package's and the document's.
-/
import Derived.Test.YtjffiojjjmecgaaVcj
namespace Go.Proofs.Ytjffiojjjmecgaa
open Go.RowKit Go.Lib Go.Maps

/-- A row of another length. -/
def odd (c : Int) (x : List Int) : Bool := decide ((x.length : Int) ≠ c)
/-- What Batch answers. -/
def bB (w : List Int) (c : Int) (X : List (List Int)) : Int := if mE w c ≠ 0 then mE w c else if X.any (odd c) = true then 80 else 0
def bL (w : List Int) (c : Int) (X : List (List Int)) : List (List Int) := if bB w c X = 0 then X.map (fun x => tL w c x) else []
theorem bB_bad {w : List Int} {c : Int} (X : List (List Int)) (h : mE w c ≠ 0) : bB w c X = mE w c := if_pos h
theorem bB_else {w : List Int} {c : Int} {X : List (List Int)} (h : mE w c = 0) (hx : X.any (odd c) = true) : bB w c X = 80 := by unfold bB; rw [if_neg (by rw [h]; simp), if_pos hx]
theorem bB_ok {w : List Int} {c : Int} {X : List (List Int)} (h : mE w c = 0) (hx : X.any (odd c) = false) : bB w c X = 0 := by unfold bB; rw [if_neg (by rw [h]; simp), if_neg (by rw [hx]; simp)]
theorem bL_bad {w : List Int} {c : Int} {X : List (List Int)} (h : bB w c X ≠ 0) : bL w c X = [] := if_neg h
theorem bL_ok {w : List Int} {c : Int} {X : List (List Int)} (h : bB w c X = 0) : bL w c X = X.map (fun x => tL w c x) := if_pos h
theorem any_take {X : List (List Int)} {c : Int} {j : Nat} (hj : j < X.length) (h : (X.take j).any (odd c) = false) (hx : odd c (X.getD j []) = false) : (X.take (j + 1)).any (odd c) = false := by
  rw [List.take_succ_eq_append_getElem hj, List.any_append, h]
  rw [List.getD_eq_getElem?_getD, List.getElem?_eq_getElem hj] at hx
  simpa using hx
theorem any_at {X : List (List Int)} {c : Int} {j : Nat} (hj : j < X.length) (hx : odd c (X.getD j []) = true) : X.any (odd c) = true := by
  rw [List.getD_eq_getElem?_getD, List.getElem?_eq_getElem hj] at hx
  exact List.any_eq_true.2 ⟨X[j], List.getElem_mem hj, hx⟩
theorem getD_mapL {X : List (List Int)} {f : List Int → List Int} {j : Nat} (hj : j < X.length) : (X.map f).getD j [] = f (X.getD j []) := by
  rw [List.getD_eq_getElem?_getD, List.getElem?_map, List.getD_eq_getElem?_getD, List.getElem?_eq_getElem hj]; rfl
theorem map_take_succ {X : List (List Int)} {f : List Int → List Int} {j : Nat} (hj : j < X.length) : (X.map f).take (j + 1) = (X.map f).take j ++ [f (X.getD j [])] := by
  rw [List.take_succ_eq_append_getElem (by simpa using hj), List.getElem_map, List.getD_eq_getElem?_getD, List.getElem?_eq_getElem hj]; rfl

set_option maxHeartbeats 2000000 in
set_option maxRecDepth 100000 in
theorem refBatch_any (p q : Nat → Prop) (wv xv : Value) (zs : List Int) (X : List (List Int)) (c : Int) (w : World) (hw : Rk .i8 p w wv zs) (hx : LL .i8 q w xv X) (hc : I64 c) :
    Calls Try.prog 17 #[wv, zV c, xv] w fun e w' => ∃ v, e = .returned (.tuple #[v, zV (bB zs c X)]) ∧ LL .i64 (fun b => w.heap.size ≤ b ∧ b < w'.heap.size) w' v (bL zs c X) ∧ Fresh w w' := by
  obtain ⟨ao, ac, hva, _⟩ := hw.shape
  subst hva
  have hrows := Matrix_any ao ac zs c w
  have HG : Hid (∀ (W : World), LL .i64 (fun b => w.heap.size ≤ b ∧ b < W.heap.size) W (.slice none 0 0) []) := fun W => ⟨none, 0, rfl, by simp, fun h => absurd rfl h, fun _ => rfl, by simp⟩
  by_cases h0 : mE zs c = 0
  · have HT : Hid (∀ (W : World) (u : Value) (x : List Int), Fresh w W → Rk .i8 q W u x → Calls Try.prog 14 #[.slice ao zs.length ac, zV c, u] W fun e w' => Gives .i64 2 (tL zs c x) (tE zs c x) W e w') := fun W u x hF hu => refTimes_any _ _ _ _ _ _ _ W (hw.fresh hF) hu hc
    have HI : Hid (∀ x : List Int, (∀ z ∈ x, C8 z) → (tL zs c x).length * kb .i64 ≤ 140737488351232 ∧ ∀ z ∈ tL zs c x, Fit .i64 z) := fun x h => ⟨by have := tL_len zs x c; simp [kb]; omega, tL_i64 c hw.all h⟩
    have hmany := hx.many
    obtain ⟨xo, xc, hvx, _⟩ := hx.shape
    subst hvx
    obtain ⟨_, _, hcx⟩ := hx.cells
    obtain ⟨n, hn⟩ : ∃ n, X.length = n := ⟨_, rfl⟩
    have HN : Hid (X.length = n) := hn
    have HC : Hid (0 < n → ∃ b off, xo = some ⟨b, off, none⟩ ∧ ∀ W, Fresh w W → ∀ i, i < n → ∃ u, W.cell? ⟨b, off + i, none⟩ = some u ∧ Rk .i8 q W u (X.getD i [])) := fun hp => by
      obtain ⟨b, off, e, _, hb, hcell⟩ := hcx (by omega)
      exact ⟨b, off, e, fun W hF i hi => let ⟨u, h1, h2⟩ := hcell i (by omega); ⟨u, (hF.cell (p := ⟨b, off + i, none⟩) hb (fun e => e)).trans h1, h2.fresh hF⟩⟩
    have HE : Hid (∀ x : List Int, odd c x = false → tE zs c x = 0) := fun x h => tE_ok h0 (by unfold odd at h; simpa using h)
    have HE2 : Hid (∀ x : List Int, odd c x = true → tE zs c x = 80) := fun x h => tE_else h0 (by unfold odd at h; simpa using h)
    have HB : Hid (mE zs c = 0) := h0
    rw [h0] at hrows
    have HR : Hid (Unit → _) := fun (_ : Unit) => hrows
    rw [hn] at hmany ⊢
    have HO : Hid ((w.alloc (.cells #[] 36)).ownsRow w.heap.size 36 1 (.slice (some ⟨w.heap.size, 0, none⟩) 0 0) 0 [] ∧ Us .i64 (fun b => w.heap.size ≤ b ∧ b < (w.alloc (.cells #[] 36)).heap.size ∧ (Value.slice (some ⟨w.heap.size, 0, none⟩) 0 0).ownBlock ≠ some b) (w.alloc (.cells #[] 36)) [] ((X.map (fun x => tL zs c x)).take 0) ∧ Fresh w (w.alloc (.cells #[] 36)) ∧ (X.take 0).any (odd c) = false) := ⟨own_empty w _ (Nat.le_refl _) _, Us.nil _ _ _, (Kept.refl _ w).alloc _, rfl⟩
    clear hrows hw hx hcx h0 hn
    go_enter Try.func17, Try.ntmps17
    go_wp2_with fail
    refine (HR.out ()).mono ?_
    rintro e w1 ⟨rfl, hw1⟩
    have hw2 := hw1.symm
    subst hw2
    clear hw1 HR
    go_wp2
    go_loopw [9, 23] (fun ov iv wr => ∃ (j : Nat) (us : List Value) (ov' : Value), j ≤ n ∧ iv = zV j ∧ ov = ov' ∧ Hid (wr.ownsRow w.heap.size 36 1 ov' j us ∧ Us .i64 (fun b => w.heap.size ≤ b ∧ b < wr.heap.size ∧ ov'.ownBlock ≠ some b) wr us ((X.map (fun x => tL zs c x)).take j) ∧ Fresh w wr ∧ (X.take j).any (odd c) = false)) (fun _ iv _ => n - (RowKit.intOf iv).toNat)
    case atStart => exact ⟨0, [], _, Nat.zero_le _, rfl, rfl, HO.out⟩
    case round =>
      obtain ⟨j, us, ov', hj, rfl, rfl, HA⟩ := hrel
      clear HO
      obtain ⟨oo, oc, hov⟩ := ownsRow_shape HA.out.1
      subst hov
      by_cases hlt : j < n
      · obtain ⟨b, off, rfl, hcell⟩ := HC.out (by omega)
        obtain ⟨u, g1, hr⟩ := hcell wr HA.out.2.2.1 j hlt
        obtain ⟨a1, l1, c1, q1⟩ : ∃ a1 l1 c1, u = .slice a1 l1 c1 := let ⟨x, y, h, _⟩ := hr.shape; ⟨x, _, y, h⟩
        subst q1
        have HT1 : Hid (Unit → _) := fun (_ : Unit) => HT.out wr _ _ HA.out.2.2.1 hr
        obtain ⟨hi1, hi2⟩ := HI.out _ hr.all
        have HI1 : Hid ((tL zs c (X.getD j [])).length * kb .i64 ≤ 140737488351232 ∧ ∀ z ∈ tL zs c (X.getD j []), Fit .i64 z) := ⟨hi1, hi2⟩
        have hlt' : (j : Int) < (n : Int) := by omega
        clear hcell hr hi1 hi2
        by_cases ho : odd c (X.getD j []) = true
        · have e80 := HE2.out _ ho
          rw [e80] at HT1
          have HF : Hid (bB zs c X = 80 ∧ bL zs c X = [] ∧ Fresh w wr) := by
            have e := bB_else HB.out (any_at (by rw [HN.out]; exact hlt) ho)
            exact ⟨e, bL_bad (by rw [e]; omega), HA.out.2.2.1⟩
          clear HA e80
          go_wp2_with fail
          refine (HT1.out ()).mono ?_
          rintro e w3 ⟨v3, rfl, _, hF3⟩
          have HF3 : Hid (Fresh w w3) := HF.out.2.2.trans hF3 (fun _ _ e => e)
          clear HT1 hF3
          go_wp2
          go_ret2
          exact ⟨_, by rw [HF.out.1]; rfl, by rw [HF.out.2.1]; exact HG.out _, HF3.out⟩
        · have ho' : odd c (X.getD j []) = false := by simpa using ho
          have e0 := HE.out _ ho'
          rw [e0] at HT1
          have HOd : Hid (odd c (X.getD j []) = false) := ho'
          clear ho ho' e0
          go_wp2_with fail
          refine (HT1.out ()).mono ?_
          rintro e w3 hG
          obtain ⟨v3, rfl, hR3, hF3⟩ := hG.row HI1.out.1 HI1.out.2
          obtain ⟨v2, W2, e2, o2, k2, b2⟩ := pushL tyL64 w3 w.heap.size (.slice oo j oc) j us v3 hR3.oneCell (owns_kept HA.out.1 hF3 (fun _ _ e => e)) (by omega) (Nat.le_trans HA.out.2.2.1.size hF3.size)
          have hge : ∀ k, (Value.slice oo j oc).ownBlock = some k → w.heap.size ≤ k ∧ k < wr.heap.size := fun k hk => ⟨own_ge HA.out.1 hk, owns_lt HA.out.1 hk⟩
          have HN1 : Hid (W2.ownsRow w.heap.size 36 1 v2 (j + 1) (us ++ [v3]) ∧ Us .i64 (fun b => w.heap.size ≤ b ∧ b < W2.heap.size ∧ v2.ownBlock ≠ some b) W2 (us ++ [v3]) ((X.map (fun x => tL zs c x)).take (j + 1)) ∧ Fresh w W2 ∧ (X.take (j + 1)).any (odd c) = false) := by
            have hs1 := HA.out.2.2.1.size
            have hs2 := hF3.size
            have hs3 := k2.size
            refine ⟨o2, ?_, (HA.out.2.2.1.trans hF3 (fun _ _ e => e)).trans k2 (fun i hi e => by have := (hge i e).1; omega), any_take (by rw [HN.out]; exact hlt) HA.out.2.2.2 HOd.out⟩
            rw [map_take_succ (by rw [HN.out]; exact hlt)]
            have u1 : Us .i64 (fun b => w.heap.size ≤ b ∧ b < w3.heap.size ∧ (Value.slice oo j oc).ownBlock ≠ some b) w3 us ((X.map (fun x => tL zs c x)).take j) := (HA.out.2.1.kept hF3 (fun _ _ e => e)).mono (fun b hb => ⟨hb.1, by omega, hb.2.2⟩)
            have u2 := u1.snoc (hR3.mono (q := fun b => w.heap.size ≤ b ∧ b < w3.heap.size ∧ (Value.slice oo j oc).ownBlock ≠ some b) (fun b hb => ⟨by omega, hb.2, fun e => by have := (hge b e).2; omega⟩))
            refine (u2.kept k2 (fun b hb e => hb.2.2 e)).mono (fun b hb => ⟨hb.1, by omega, fun e => ?_⟩)
            rcases b2 with q | q
            · rw [q] at e; exact hb.2.2 e
            · rw [q] at e; simp at e; omega
          obtain ⟨a3, l3, c3, q3⟩ : ∃ a3 l3 c3, v3 = .slice a3 l3 c3 := let ⟨x, y, h, _⟩ := hR3.shape; ⟨x, _, y, h⟩
          subst q3
          clear hG hR3 hF3 o2 k2 b2 hge HA HT1 HI1
          go_wp2_with (at_builtin; refine Lib.wpList_append_run _ rfl _ _ _ _ rfl _ _ rfl rfl _ _ e2 ?_)
          go_roundw
          case rel => exact ⟨j + 1, us ++ [Value.slice a3 l3 c3], v2, hlt, by go_num, rfl, HN1.out⟩
          case measure => simp [RowKit.intOf]; omega
      · obtain rfl : j = n := by omega
        have HX : Hid (bB zs c X = 0 ∧ LL .i64 (fun b => w.heap.size ≤ b ∧ b < wr.heap.size) wr (.slice oo j oc) (bL zs c X) ∧ Fresh w wr) := by
          have ha := HA.out.2.2.2
          rw [List.take_of_length_le (by rw [HN.out]; exact Nat.le_refl _)] at ha
          have e0 := bB_ok HB.out ha
          have hu := HA.out.2.1
          rw [List.take_of_length_le (by simp; rw [HN.out]; exact Nat.le_refl _), ← bL_ok e0] at hu
          exact ⟨e0, ll_of_own HA.out.1 (hu.mono (fun b hb => ⟨hb.1, hb.2.1⟩)) (by rw [bL_ok e0, List.length_map, HN.out]; omega), HA.out.2.2.1⟩
        clear HA HC
        go_wp2
        go_ret2
        exact ⟨_, by rw [HX.out.1]; rfl, HX.out.2.1, HX.out.2.2⟩
  · have HE : Hid (bB zs c X = mE zs c ∧ bL zs c X = []) := ⟨bB_bad _ h0, bL_bad (by rw [bB_bad _ h0]; exact h0)⟩
    obtain ⟨xo, xc, hvx, _⟩ := hx.shape
    subst hvx
    rw [HE.out.1, HE.out.2]
    have HR : Hid (Unit → _) := fun (_ : Unit) => hrows
    have h0' : (mE zs c == 0) = false := by simp [h0]
    have HK : Hid (Fresh w w) := Kept.refl _ _
    clear hrows hw hx
    go_enter Try.func17, Try.ntmps17
    go_wp2_with fail
    refine (HR.out ()).mono ?_
    rintro e w1 ⟨rfl, hw1⟩
    have hw2 := hw1.symm
    subst hw2
    clear hw1 HR
    go_wp2
    go_ret2
    exact ⟨_, rfl, HG.out _, HK.out⟩
end Go.Proofs.Ytjffiojjjmecgaa
