/-
  A row turned, the document's.
-/
import Derived.Test.YtkemaofclahaiabDoorRoa
import Derived.Test.YtkemaofclahaiabDoorGrw
import Derived.BigQuiet
namespace Go.Proofs.YtkemaofclahaiabDoor
open Go.RowKit Go.Lib Go.Maps

/-- Two numbers behind a row that grows. -/
theorem Grw.push2 {k : IntKind} {e s : TypeId} (ht : Ty k e s) {w X : World} {f : Nat → Int} {j g c : Nat} (h : Grw k e w f j g c X) (hj : (j + 2) * kb k ≤ 140737488355328) :
    ∃ g' c' X', (Builtin.append_ #[s, s] s #[.slice (some ⟨g, 0, none⟩) j c, .slice (some ⟨X.heap.size, 0, none⟩) 2 2]).run Tryd.prog (X.alloc (.cells #[.int k (f j), .int k (f (j + 1))] e)) = .ok (.slice (some ⟨g', 0, none⟩) (j + 2) c') X' ∧ Grw k e w f (j + 2) g' c' X' := by
  obtain ⟨ho, hF⟩ := h
  obtain ⟨i0, hi0, hz0, hz1, hz2⟩ := info_parts ht.info
  have hk := kb_pos k
  have hx2 : j + 2 ≤ 140737488355328 := Nat.le_trans (Nat.le_mul_of_pos_right _ hk) hj
  have hY : (X.alloc (.cells #[.int k (f j), .int k (f (j + 1))] e)).ownsRow w.heap.size e 1 (.slice (some ⟨g, 0, none⟩) j c) j ((mkL j f).map (Value.int k)) := owns_kept ho ((Kept.refl (fun _ => False) X).alloc _) (fun _ _ e => e)
  have hN := heap_alloc_new X (.cells #[.int k (f j), .int k (f (j + 1))] e)
  obtain ⟨v', w', hrun, ho', hg, _, hb⟩ := run_append_own_at (P := Tryd.prog) (X.alloc (.cells #[.int k (f j), .int k (f (j + 1))] e)) w.heap.size s s e i0 _ 1 (kb k) ht.u hi0 hz0 hz1 hz2 rfl (by omega) _ j _ hY ⟨X.heap.size, 0, none⟩ 2 2 [.int k (f j), .int k (f (j + 1))] rfl (fun q u hq => by
    have hq' : q < 2 := by have := (List.getElem?_eq_some_iff.1 hq).1; simpa using this
    rw [Addr.add_lit, Lib.cell_of_heap hN]
    rcases q with _ | _ | q
    · simpa using hq
    · simpa using hq
    · omega) (fun u hu => by simp at hu; rcases hu with rfl | rfl <;> rfl) (by unfold maxLen; omega) hj (by simp; have := hF.size; omega)
  obtain ⟨g', c', rfl⟩ : ∃ g' c', v' = .slice (some ⟨g', 0, none⟩) (j + 2) c' := by
    rcases ho'.2 with ⟨_, e⟩ | ⟨g', cap', cur, hv, _⟩
    · omega
    · exact ⟨g', cap', hv⟩
  refine ⟨g', c', w', hrun, ?_, ?_⟩
  · rw [show j + 2 = j + 1 + 1 by omega, mkL_succ, mkL_succ, List.append_assoc, List.map_append]; exact ho'
  · have hg0 : w.heap.size ≤ g := (own_block ho).1
    exact (hF.alloc _).grown hg (fun q hq e => by simp [Value.ownBlock] at e; omega)

set_option maxHeartbeats 1000000 in
theorem both_any (a b c s : Int) (w : World) (h1 : -16384 ≤ a * c ∧ a * c ≤ 16384) (h2 : -16384 ≤ b * s ∧ b * s ≤ 16384) (h3 : -16384 ≤ a * s ∧ a * s ≤ 16384) (h4 : -16384 ≤ b * c ∧ b * c ≤ 16384) :
    Calls Tryd.prog 22 #[zV a, zV b, zV c, zV s] w fun e w' => e = .returned (.tuple #[.int .i8 (rnd (a * c + b * s)), .int .i8 (rnd (b * c - a * s))]) ∧ ∃ n, w' = w.drewN n := by
  obtain ⟨A, hA⟩ : ∃ A, a * c = A := ⟨_, rfl⟩
  obtain ⟨B, hB⟩ : ∃ B, b * s = B := ⟨_, rfl⟩
  obtain ⟨C, hC⟩ : ∃ C, a * s = C := ⟨_, rfl⟩
  obtain ⟨D, hD⟩ : ∃ D, b * c = D := ⟨_, rfl⟩
  rw [hA] at h1 ⊢
  rw [hB] at h2 ⊢
  rw [hC] at h3 ⊢
  rw [hD] at h4 ⊢
  have HR1 : Hid (∀ W, _) := fun W => refRound_ok (A + B) 6 W ⟨by omega, by omega⟩ (by omega)
  have HR2 : Hid (∀ W, _) := fun W => refRound_ok (D - C) 6 W ⟨by omega, by omega⟩ (by omega)
  have HN1 : Hid (∀ W, Calls Tryd.prog 26 #[zV (near (A + B) (2 ^ 6))] W fun e w' => e = .returned (.int .i8 (rnd (A + B))) ∧ Drew W w') := fun W => refNarrow_any _ W
  have HN2 : Hid (∀ W, Calls Tryd.prog 26 #[zV (near (D - C) (2 ^ 6))] W fun e w' => e = .returned (.int .i8 (rnd (D - C))) ∧ Drew W w') := fun W => refNarrow_any _ W
  obtain ⟨n1, hn1⟩ : ∃ n, near (A + B) (2 ^ 6) = n := ⟨_, rfl⟩
  obtain ⟨n2, hn2⟩ : ∃ n, near (D - C) (2 ^ 6) = n := ⟨_, rfl⟩
  rw [hn1] at HR1 HN1
  rw [hn2] at HR2 HN2
  clear hn1 hn2
  go_enter Tryd.func22, Tryd.ntmps22
  go_wp2_with fail
  refine (HR1.out _).mono ?_
  rintro e w1 ⟨rfl, d1⟩
  go_wp2_with fail
  refine (HR2.out _).mono ?_
  rintro e w2 ⟨rfl, d2⟩
  go_wp2_with fail
  refine (HN1.out _).mono ?_
  rintro e w3 ⟨rfl, d3⟩
  go_wp2_with fail
  refine (HN2.out _).mono ?_
  rintro e w4 ⟨rfl, d4⟩
  have hd : Drew w w4 := ((d1.trans d2).trans d3).trans d4
  clear d1 d2 d3 d4
  go_wp2
  go_ret2
  exact ⟨rfl, hd⟩

set_option maxHeartbeats 4000000 in
set_option maxRecDepth 100000 in
theorem refTurned_any (sg : Int) (hsg : sg = 1 ∨ sg = -1) (p q r : Nat → Prop) (xv cv sv : Value) (xs cs ss : List Int) (size : Int) (w : World) (hx : Rk .i8 p w xv xs) (hc : Rk .i8 q w cv cs) (hs : Rk .i8 r w sv ss) (hsz : I64 size) :
    Calls Tryd.prog 20 #[xv, zV size, cv, sv, zV (-sg)] w fun e w' => Gives .i8 35 (toL sg xs size cs ss) (toE xs.length size cs.length ss.length) w e w' := by
  have HG : Hid (∀ (E : Int), Gives .i8 35 [] E w (.returned (.tuple #[.slice none 0 0, zV E])) w) := fun E => Gives.none _ _ _ _
  obtain ⟨xo, xc, hxv, _⟩ := hx.shape
  obtain ⟨co, cc, hcv, _⟩ := hc.shape
  obtain ⟨so, sc, hsv, _⟩ := hs.shape
  have hsg2 : -1 ≤ -sg ∧ -sg ≤ 1 := by omega
  rcases to_cases xs.length size cs.length ss.length with ⟨h1, h2⟩ | ⟨h1, h1', h2⟩ | ⟨h, h1, rfl, ⟨h3, h2⟩ | ⟨m, h3, h4, ⟨h5, h2⟩ | ⟨h5, h6, h2⟩ | ⟨h5, h6, h2⟩⟩⟩
  · rw [toL_bad (by rw [h2]; decide), h2]
    subst hxv hcv hsv
    obtain ⟨z0, z1⟩ := hsz
    clear hx hc hs h2 hsg
    go_enter Tryd.func20, Tryd.ntmps20
    go_wp2
    go_ret2
    exact HG.out _
  · rw [toL_bad (by rw [h2]; decide), h2]
    subst hxv hcv hsv
    obtain ⟨z0, z1⟩ := hsz
    have ht : size.tmod 2 = 1 := by rw [Int.tmod_eq_emod_of_nonneg (by omega)]; omega
    have ht2 : size % 2 = 1 := by omega
    clear hx hc hs h2 hsg h1'
    go_enter Tryd.func20, Tryd.ntmps20
    go_wp2
    go_ret2
    exact HG.out _
  · rw [toL_bad (by rw [h2]; decide), h2]
    obtain ⟨z0, z1⟩ := hsz
    have hm : (xs.length : Int).tmod (2 * (h : Int)) = (xs.length : Int) % (2 * (h : Int)) := Int.tmod_eq_emod_of_nonneg (by omega)
    have ht : (2 * (h : Int)).tmod 2 = 0 := by rw [Int.tmod_eq_emod_of_nonneg (by omega)]; omega
    have ht2 : (2 * (h : Int)) % 2 = 0 := by omega
    subst hxv hcv hsv
    generalize (xs.length : Int) % (2 * (h : Int)) = M at *
    have h3' : (M != 0) = true := by simp [h3]
    clear hx hc hs h2 hsg
    go_enter Tryd.func20, Tryd.ntmps20
    go_wp2
    go_ret2
    exact HG.out _
  · rw [toL_bad (by rw [h2]; decide), h2]
    obtain ⟨z0, z1⟩ := hsz
    have hm : (xs.length : Int).tmod (2 * (h : Int)) = 0 := (Int.tmod_eq_emod_of_nonneg (by omega)).trans h4
    have ht : (2 * (h : Int)).tmod 2 = 0 := by rw [Int.tmod_eq_emod_of_nonneg (by omega)]; omega
    have ht2 : (2 * (h : Int)) % 2 = 0 := by omega
    have hd : (2 * (h : Int)).tdiv 2 = h := Int.mul_tdiv_cancel_left _ (by decide)
    have hd2 : 2 * (h : Int) / 2 = h := by omega
    have h5' : ¬ (cs.length : Int) = (h : Int) := by omega
    subst hxv hcv hsv
    clear hx hc hs h2 hsg
    go_enter Tryd.func20, Tryd.ntmps20
    go_wp2
    go_ret2
    exact HG.out _
  · rw [toL_bad (by rw [h2]; decide), h2]
    obtain ⟨z0, z1⟩ := hsz
    have hm : (xs.length : Int).tmod (2 * (h : Int)) = 0 := (Int.tmod_eq_emod_of_nonneg (by omega)).trans h4
    have ht : (2 * (h : Int)).tmod 2 = 0 := by rw [Int.tmod_eq_emod_of_nonneg (by omega)]; omega
    have ht2 : (2 * (h : Int)) % 2 = 0 := by omega
    have hd : (2 * (h : Int)).tdiv 2 = h := Int.mul_tdiv_cancel_left _ (by decide)
    have hd2 : 2 * (h : Int) / 2 = h := by omega
    have h6' : ¬ (ss.length : Int) = (h : Int) := by omega
    subst hxv hcv hsv
    rw [h5]
    clear hx hc hs h2 hsg
    go_enter Tryd.func20, Tryd.ntmps20
    go_wp2
    go_ret2
    exact HG.out _
  · rw [toL_ok h2, h2, show (2 * (h : Int) / 2).toNat = h by omega]
    obtain ⟨z0, z1⟩ := hsz
    have hm : (xs.length : Int).tmod (2 * (h : Int)) = 0 := (Int.tmod_eq_emod_of_nonneg (by omega)).trans h4
    have ht : (2 * (h : Int)).tmod 2 = 0 := by rw [Int.tmod_eq_emod_of_nonneg (by omega)]; omega
    have ht2 : (2 * (h : Int)) % 2 = 0 := by omega
    have hd : (2 * (h : Int)).tdiv 2 = h := Int.mul_tdiv_cancel_left _ (by decide)
    have hd2 : 2 * (h : Int) / 2 = h := by omega
    have hmany := hx.many
    have hev : xs.length % 2 = 0 := by rw [h3, Nat.mul_comm, Nat.mul_assoc]; exact Nat.mul_mod_right _ _
    have HX : Hid (∀ P, _) := fun (P : Nat) => (⟨hx.get (2 * P), hx.get (2 * P + 1), hc.get (P % h), hs.get (P % h)⟩ : C8 (xs.getD (2 * P) 0) ∧ C8 (xs.getD (2 * P + 1) 0) ∧ C8 (cs.getD (P % h) 0) ∧ C8 (ss.getD (P % h) 0))
    subst hxv hcv hsv
    have HC1 : Hid _ := hx.stay
    have HC2 : Hid _ := hc.stay
    have HC3 : Hid _ := hs.stay
    rw [h5] at HC2 ⊢
    rw [h6] at HC3 ⊢
    generalize xs.length = n at *
    have hS : Hid (Grw .i8 35 w (tuF sg xs cs ss h) 0 w.heap.size 0 (w.alloc (.cells #[] 35))) := Grw.start _ (Kept.refl _ w)
    generalize hW0 : w.alloc (.cells #[] 35) = W0 at *
    have HS : Hid (sg = 1 ∨ sg = -1) := hsg
    clear hx hc hs h2 h5 h6 h3 HG hsg h4
    go_enter Tryd.func20, Tryd.ntmps20
    go_wp2
    clear hW0
    go_loopw [12, 13] (fun ov iv wr => ∃ P g c : Nat, 2 * P ≤ n ∧ iv = zV ((2 * P : Nat) : Int) ∧ ov = .slice (some ⟨g, 0, none⟩) (2 * P) c ∧ Hid (Grw .i8 35 w (tuF sg xs cs ss h) (2 * P) g c wr)) (fun _ iv _ => n - (RowKit.intOf iv).toNat)
    case atStart => exact ⟨0, _, _, Nat.zero_le _, rfl, rfl, hS.out⟩
    case round =>
      obtain ⟨P, og, oc, hP, rfl, rfl, HA⟩ := hrel
      clear hS
      by_cases hlt : 2 * P < n
      · obtain ⟨b1, o1, rfl, hc1⟩ := HC1.out (by omega)
        obtain ⟨b2, o2, rfl, hc2⟩ := HC2.out (by omega)
        obtain ⟨b3, o3, rfl, hc3⟩ := HC3.out (by omega)
        have hPh : P % h < h := Nat.mod_lt _ (by omega)
        have g1 := hc1 wr HA.out.fresh (2 * P) (by omega)
        have g2 := hc1 wr HA.out.fresh (2 * P + 1) (by omega)
        have g3 := hc2 wr HA.out.fresh (P % h) hPh
        have g4 := hc3 wr HA.out.fresh (P % h) hPh
        obtain ⟨k1, k2, k3, k4⟩ := HX.out P
        have m1 := mul8 k1 k3
        have m2 := mul8 k2 k4
        have m3 := mul8 k1 k4
        have m4 := mul8 k2 k3
        have HE1 : Hid (rnd (xs.getD (2 * P) 0 * cs.getD (P % h) 0 - sg * (xs.getD (2 * P + 1) 0 * ss.getD (P % h) 0)) = tuF sg xs cs ss h (2 * P)) := (tuF_even _ _ _ _ _ _).symm
        have HE2 : Hid (rnd (xs.getD (2 * P + 1) 0 * cs.getD (P % h) 0 + sg * (xs.getD (2 * P) 0 * ss.getD (P % h) 0)) = tuF sg xs cs ss h (2 * P + 1)) := (tuF_odd _ _ _ _ _ _).symm
        have hq1 : ((2 * P : Nat) : Int) % (2 * (h : Int)) = 2 * ((P % h : Nat) : Int) := by
          rw [show ((2 * P : Nat) : Int) = 2 * (P : Int) by omega, Int.mul_emod_mul_of_pos _ _ (by decide)]; rfl
        have hq1' : (((2 * P : Nat) : Int)).tmod (2 * (h : Int)) = 2 * ((P % h : Nat) : Int) := (Int.tmod_eq_emod_of_nonneg (by omega)).trans hq1
        have hq2 : (2 * ((P % h : Nat) : Int)).tdiv 2 = ((P % h : Nat) : Int) := Int.mul_tdiv_cancel_left _ (by decide)
        have hq3 : (2 * ((P % h : Nat) : Int)) / 2 = ((P % h : Nat) : Int) := by omega
        have hlt1 : ((2 * P : Nat) : Int) < (n : Int) := by omega
        have hlt2 : ((2 * P : Nat) : Int) + 1 < (n : Int) := by omega
        have hlt3 : ((P % h : Nat) : Int) < (h : Int) := by omega
        clear hc1 hc2 hc3 HC1 HC2 HC3 HX
        obtain ⟨k10, k11⟩ := k1
        obtain ⟨k20, k21⟩ := k2
        obtain ⟨k30, k31⟩ := k3
        obtain ⟨k40, k41⟩ := k4
        generalize xs.getD (2 * P) 0 = x1 at *
        generalize xs.getD (2 * P + 1) 0 = x2 at *
        generalize cs.getD (P % h) 0 = c1 at *
        generalize ss.getD (P % h) 0 = s1 at *
        generalize P % h = I at *
        obtain ⟨t1, ht1⟩ : ∃ t1, -sg * s1 = t1 := ⟨_, rfl⟩
        have hb1 : -128 ≤ t1 ∧ t1 ≤ 128 := by rcases HS.out with e | e <;> rw [e] at ht1 <;> omega
        have e1 : x2 * t1 = -(sg * (x2 * s1)) := by rw [← ht1]; rcases HS.out with e | e <;> rw [e] <;> simp [Int.mul_neg, Int.neg_mul]
        have e2 : x1 * t1 = -(sg * (x1 * s1)) := by rw [← ht1]; rcases HS.out with e | e <;> rw [e] <;> simp [Int.mul_neg, Int.neg_mul]
        have hb2 : -16384 ≤ x2 * t1 ∧ x2 * t1 ≤ 16384 := by rw [e1]; rcases HS.out with e | e <;> rw [e] <;> omega
        have hb3 : -16384 ≤ x1 * t1 ∧ x1 * t1 ≤ 16384 := by rw [e2]; rcases HS.out with e | e <;> rw [e] <;> omega
        have HT : Hid (∀ W : World, _) := fun (W : World) => both_any x1 x2 c1 t1 W m1 hb2 hb3 m4
        rw [show x1 * c1 + x2 * t1 = x1 * c1 - sg * (x2 * s1) by rw [e1]; omega, show x2 * c1 - x1 * t1 = x2 * c1 + sg * (x1 * s1) by rw [e2]; omega, HE1.out, HE2.out] at HT
        obtain ⟨Q, hQ⟩ : ∃ Q, 2 * P = Q := ⟨_, rfl⟩
        have HEnd : Hid (∀ X : World, Grw .i8 35 w (tuF sg xs cs ss h) Q og oc X → _) := fun X hX => hX.push2 ty8 (by simp [kb]; omega)
        rw [hQ] at g1 g2 hq1 hq1' hlt1 hlt2 HA HT hlt hP ⊢
        clear m1 m2 m3 m4 e1 e2 hb2 hb3 HE1 HE2
        generalize tuF sg xs cs ss h Q = y1 at *
        generalize tuF sg xs cs ss h (Q + 1) = y2 at *
        go_wp2_with fail
        go_quiet ((go_at_call 22; exact Calls.quiet_of (HT.out _)))
        clear HT
        obtain ⟨g', c', X', hr1, hG⟩ := HEnd.out (wr.drewN nq) (HA.out.drew nq)
        have HG : Hid _ := hG
        clear HA g1 g2 g3 g4 hG HEnd
        go_wp2_with (at_builtin; refine Lib.wpList_append_run _ rfl _ _ _ _ rfl _ _ rfl rfl _ _ hr1 ?_)
        go_roundw
        case rel => exact ⟨P + 1, g', c', by omega, by go_num, by rw [show 2 * (P + 1) = Q + 2 by omega], by rw [show 2 * (P + 1) = Q + 2 by omega]; exact HG.out⟩
        case measure => simp [RowKit.intOf]; omega
      · obtain rfl : n = 2 * P := by omega
        have HXX : Hid (Gives .i8 35 (mkL (2 * P) (tuF sg xs cs ss h)) 0 w (.returned (.tuple #[.slice (some ⟨og, 0, none⟩) (2 * P) oc, zV 0])) wr) := HA.out.done 0
        clear HA HC1 HC2 HC3 HX
        go_wp2
        go_ret2
        exact HXX.out

set_option maxHeartbeats 400000 in
theorem refTurn_any (p q r : Nat → Prop) (xv cv sv : Value) (xs cs ss : List Int) (size : Int) (w : World) (hx : Rk .i8 p w xv xs) (hc : Rk .i8 q w cv cs) (hs : Rk .i8 r w sv ss) (hsz : I64 size) :
    Calls Tryd.prog 15 #[xv, zV size, cv, sv] w fun e w' => Gives .i8 35 (toL 1 xs size cs ss) (toE xs.length size cs.length ss.length) w e w' := by
  have H : Hid (Unit → _) := fun (_ : Unit) => refTurned_any 1 (.inl rfl) p q r xv cv sv xs cs ss size w hx hc hs hsz
  obtain ⟨xo, xc, rfl, _⟩ := hx.shape
  obtain ⟨co, cc, rfl, _⟩ := hc.shape
  obtain ⟨so, sc, rfl, _⟩ := hs.shape
  clear hx hc hs hsz
  generalize toL 1 xs size cs ss = L at *
  generalize toE xs.length size cs.length ss.length = E at *
  go_enter Tryd.func15, Tryd.ntmps15
  go_wp2_with fail
  refine (H.out ()).mono ?_
  rintro e w1 ⟨v, rfl, ho, hF⟩
  have HX : Hid (Gives .i8 35 L E w (.returned (.tuple #[v, zV E])) w1) := ⟨v, rfl, ho, hF⟩
  clear ho hF H
  go_wp2
  go_ret2
  exact HX.out
end Go.Proofs.YtkemaofclahaiabDoor
