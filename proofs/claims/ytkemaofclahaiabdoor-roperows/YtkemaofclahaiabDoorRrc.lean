/-
  Rows, the document's.
-/
import Derived.Test.YtkemaofclahaiabDoorRrb
import Derived.Test.YtkemaofclahaiabDoorRoc
namespace Go.Proofs.YtkemaofclahaiabDoor
open Go.RowKit Go.Lib Go.Maps

set_option maxHeartbeats 8000000 in
set_option maxRecDepth 100000 in
theorem refRows_any (p q r : Nat → Prop) (lv cv sv : Value) (L : List (List Int)) (cs ss : List Int) (size first : Int) (w : World) (hl : LL .i8 p w lv L) (hc : Rk .i8 q w cv cs) (hs : Rk .i8 r w sv ss) (hsz : I64 size) (hf : I64 first) (eF : Nat → Int) (lF : Nat → List Int)
    (he : ∀ i, eF i = rwE (L.getD i []) size cs ss (first + (i : Int))) (hlf : ∀ i, lF i = rwL (L.getD i []) size cs ss (first + (i : Int))) :
    Calls Tryd.prog 9 #[lv, zV size, cv, sv, zV first] w fun e w' => ∃ I E R v, e = .returned (.tuple #[v, zV I, zV E]) ∧ (RrIs L.length eF lF I E R ∧ LL .i8 (fun b => w.heap.size ≤ b ∧ b < w'.heap.size) w' v R ∧ Fresh w w') := by
  have hmany := hl.many
  have hcm := hc.many
  obtain ⟨ao, ac, hva, _⟩ := hl.shape
  obtain ⟨co, cc, hcv, _⟩ := hc.shape
  obtain ⟨so, sc, hsv, _⟩ := hs.shape
  subst hva
  have HC : Hid _ := hl.stay
  have HG : Hid (∀ W, Fresh w W → Rk .i8 q W cv cs ∧ Rk .i8 r W sv ss) := fun W hF => ⟨hc.fresh hF, hs.fresh hF⟩
  have HPl : Hid (∀ j : Nat, (∀ h, h < j → eF h = 0) → I64 (first + (j : Int)) ∧ ¬ (0 < first ∧ first + (j : Int) < 0)) := fun j hj => ⟨place_i64 hf hcm he hj, by omega⟩
  have HSz : Hid (I64 size) := hsz
  have HEq : Hid ((∀ i, eF i = rwE (L.getD i []) size cs ss (first + (i : Int))) ∧ ∀ i, lF i = rwL (L.getD i []) size cs ss (first + (i : Int))) := ⟨he, hlf⟩
  obtain ⟨n, hn⟩ : ∃ n, L.length = n := ⟨_, rfl⟩
  rw [hn] at HC hmany ⊢
  have hOL := own_empty w w.heap.size (Nat.le_refl _) 23
  have hFL : Fresh w (w.alloc (.cells #[] 23)) := (Kept.refl _ w).alloc _
  have HNil : Hid (∀ W : World, LL .i8 (fun b => w.heap.size ≤ b ∧ b < W.heap.size) W (.slice none 0 0) []) := fun W => ⟨none, 0, rfl, by simp, fun h => absurd rfl h, fun _ => rfl, by simp⟩
  generalize hW1 : w.alloc (.cells #[] 23) = W1 at *
  have HO : Hid (W1.ownsRow w.heap.size 23 1 (.slice (some ⟨w.heap.size, 0, none⟩) 0 0) 0 [] ∧ Us .i8 (fun b => w.heap.size ≤ b ∧ b < W1.heap.size ∧ (Value.slice (some ⟨w.heap.size, 0, none⟩) 0 0).ownBlock ≠ some b) W1 [] ((List.range 0).map lF) ∧ Fresh w W1 ∧ ∀ h, h < 0 → eF h = 0) := ⟨hOL, Us.nil _ _ _, hFL, fun h hh => by omega⟩
  subst hcv hsv
  obtain ⟨z0, z1⟩ := hsz
  obtain ⟨f0, f1⟩ := hf
  clear hl hc hs hOL hFL hn he hlf hcm
  go_enter Tryd.func9, Tryd.ntmps9
  go_wp2
  clear hW1
  go_loopw [13, 24] (fun ov iv wr => ∃ (j : Nat) (us : List Value) (ov' : Value), j ≤ n ∧ iv = zV j ∧ ov = ov' ∧ Hid (wr.ownsRow w.heap.size 23 1 ov' j us ∧ Us .i8 (fun b => w.heap.size ≤ b ∧ b < wr.heap.size ∧ ov'.ownBlock ≠ some b) wr us ((List.range j).map lF) ∧ Fresh w wr ∧ ∀ h, h < j → eF h = 0)) (fun _ iv _ => n - (RowKit.intOf iv).toNat)
  case atStart => exact ⟨0, [], _, Nat.zero_le _, rfl, rfl, HO.out⟩
  case round =>
    obtain ⟨j, us, ov', hj, rfl, rfl, HA⟩ := hrel
    clear HO
    obtain ⟨oo, oc, hov⟩ := ownsRow_shape HA.out.1
    subst hov
    by_cases hlt : j < n
    · obtain ⟨b, off, rfl, hcell⟩ := HC.out (by omega)
      obtain ⟨a1, l1, c1, g1, hr⟩ := hcell wr HA.out.2.2.1 j hlt
      have hlt' : (j : Int) < (n : Int) := by omega
      have HX : Hid (∀ W, Fresh wr W → eF j ≠ 0 → RrIs n eF lF (j : Int) (eF j) [] ∧ LL .i8 (fun b => w.heap.size ≤ b ∧ b < W.heap.size) W (.slice none 0 0) [] ∧ Fresh w W) := fun W hF h0 => ⟨.inl ⟨j, hlt, h0, HA.out.2.2.2, rfl, rfl, rfl⟩, HNil.out W, HA.out.2.2.1.trans hF (fun _ _ e => e)⟩
      by_cases h1 : size < 2 ∨ size % 2 ≠ 0
      · have hE : eF j = 100 := by rw [HEq.out.1 j]; exact rwE_head h1
        have HY : Hid _ := HX.out wr (Kept.refl _ _) (by rw [hE]; decide)
        rw [hE] at HY
        clear hcell hr HX hE HPl HG HEq HA
        by_cases h2 : size < 2
        · go_wp2
          go_ret3
          exact ⟨_, _, _, _, rfl, HY.out⟩
        · have h2' : decide (size < 2) = false := by simp; omega
          have ht : size.tmod 2 = 1 := by rw [Int.tmod_eq_emod_of_nonneg (by omega)]; omega
          have ht2 : size % 2 = 1 := by omega
          clear h1
          go_wp2
          go_ret3
          exact ⟨_, _, _, _, rfl, HY.out⟩
      have h2' : decide (size < 2) = false := by simp; omega
      have ht : size.tmod 2 = 0 := by rw [Int.tmod_eq_emod_of_nonneg (by omega)]; omega
      have ht2 : size % 2 = 0 := by omega
      have hd : size.tdiv 2 = size / 2 := Int.tdiv_eq_ediv_of_nonneg (by omega)
      obtain ⟨⟨pl0, pl1⟩, hneg⟩ := HPl.out j HA.out.2.2.2
      have HCall : Hid (Unit → _) := fun (_ : Unit) => refAt_any q r _ _ cs ss (size / 2) (first + (j : Int)) wr (HG.out wr HA.out.2.2.1).1 (HG.out wr HA.out.2.2.1).2 ⟨pl0, pl1⟩
      obtain ⟨hf, hhf⟩ : ∃ hf, size / 2 = hf := ⟨_, rfl⟩
      have hE1 : atE cs.length ss.length hf (first + (j : Int)) ≠ 0 → eF j = atE cs.length ss.length hf (first + (j : Int)) := fun h => by rw [HEq.out.1 j, rwE_at h1 (by rw [hhf]; exact h), hhf]
      have hE2 : atE cs.length ss.length hf (first + (j : Int)) = 0 → eF j = toE (L.getD j []).length size (atL cs 0 hf (first + (j : Int))).length (atL ss 0 hf (first + (j : Int))).length ∧ lF j = toL 1 (L.getD j []) size (atL cs 0 hf (first + (j : Int))) (atL ss 0 hf (first + (j : Int))) := fun h => by
        rw [HEq.out.1 j, HEq.out.2 j, rwE_to h1 (by rw [hhf]; exact h), rwL_to h1 (by rw [hhf]; exact h), hhf]
        exact ⟨rfl, rfl⟩
      rw [hhf] at HCall hd
      have HI1 : Hid ((lF j).length * kb .i8 ≤ 140737488351232 ∧ ∀ z ∈ lF j, Fit .i8 z) := by
        show _ ∧ _
        rw [HEq.out.2 j]
        exact ⟨by have := rwL_len (L.getD j []) size cs ss (first + (j : Int)); have := hr.many; simp only [kb]; omega, rwL_c8 _ _ _ _ _⟩
      have hfp : 0 < first → decide (first + (j : Int) < 0) = false := fun h => by simp; omega
      have HRx : Hid (∀ W, Fresh wr W → Rk .i8 p W (.slice a1 l1 c1) (L.getD j [])) := fun W hF => hr.fresh hF
      obtain ⟨P, hP⟩ : ∃ P, first + (j : Int) = P := ⟨_, rfl⟩
      rw [hP] at pl0 pl1 hneg HCall hE1 hE2 hfp
      by_cases h3 : atE cs.length ss.length hf P = 0
      · obtain ⟨e1, e2⟩ := hE2 h3
        rw [h3] at HCall
        have HTo : Hid (∀ W u v (p' q' : Nat → Prop), Fresh wr W → Rk .i8 p' W u (atL cs 0 hf P) → Rk .i8 q' W v (atL ss 0 hf P) → Calls Tryd.prog 15 #[.slice a1 l1 c1, zV size, u, v] W fun e w' => Gives .i8 35 (lF j) (eF j) W e w') := fun W u v p' q' hF hu hv => by
          rw [e1, e2]
          exact refTurn_any _ _ _ _ _ _ _ _ _ size W (HRx.out W hF) hu hv HSz.out
        have hnext : eF j = 0 → ∀ h, h < j + 1 → eF h = 0 := fun h0 h hh => by
          rcases Nat.lt_or_ge h j with e | e
          · exact HA.out.2.2.2 h e
          · obtain rfl : h = j := by omega
            exact h0
        have HQ : Hid (eF j = 0 → ∀ h, h < j + 1 → eF h = 0) := hnext
        clear hcell hr hE1 hE2 e1 e2 h3 HPl HG HEq HRx hnext HC
        by_cases hfs : 0 < first
        · have hfp' := hfp hfs
          by_cases h0 : eF j = 0
          · rw [h0] at HTo
            go_wp2_with fail
            refine (HCall.out ()).mono ?_
            rintro e w2 ⟨u, v, rfl, hu, hv, hD⟩
            have HT2 : Hid (Unit → _) := fun (_ : Unit) => HTo.out w2 u v _ _ hD.fresh hu hv
            have HF2 : Hid (Fresh wr w2) := hD.fresh
            clear hu hv hD HTo HCall
            go_wp2_with fail
            refine (HT2.out ()).mono ?_
            rintro e w3 hG
            obtain ⟨v3, rfl, hR3, hF23⟩ := hG.row HI1.out.1 HI1.out.2
            have hF3 : Fresh wr w3 := HF2.out.trans hF23 (fun _ _ e => e)
            obtain ⟨v2, W2, e2, o2, k2, b2⟩ := pushL tyL8 w3 w.heap.size (.slice oo j oc) j us v3 hR3.oneCell (owns_kept HA.out.1 hF3 (fun _ _ e => e)) (by omega) (Nat.le_trans HA.out.2.2.1.size hF3.size)
            have hge : ∀ k, (Value.slice oo j oc).ownBlock = some k → w.heap.size ≤ k ∧ k < wr.heap.size := fun k hk => ⟨own_ge HA.out.1 hk, owns_lt HA.out.1 hk⟩
            have HN1 : Hid (W2.ownsRow w.heap.size 23 1 v2 (j + 1) (us ++ [v3]) ∧ Us .i8 (fun b => w.heap.size ≤ b ∧ b < W2.heap.size ∧ v2.ownBlock ≠ some b) W2 (us ++ [v3]) ((List.range (j + 1)).map lF) ∧ Fresh w W2 ∧ ∀ h, h < j + 1 → eF h = 0) := by
              have hs1 := HA.out.2.2.1.size
              have hs2 := hF3.size
              have hs3 := k2.size
              have hs4 := HF2.out.size
              refine ⟨o2, ?_, (HA.out.2.2.1.trans hF3 (fun _ _ e => e)).trans k2 (fun i hi e => by have := (hge i e).1; omega), HQ.out h0⟩
              rw [range_succL]
              have u1 : Us .i8 (fun b => w.heap.size ≤ b ∧ b < w3.heap.size ∧ (Value.slice oo j oc).ownBlock ≠ some b) w3 us ((List.range j).map lF) := (HA.out.2.1.kept hF3 (fun _ _ e => e)).mono (fun b hb => ⟨hb.1, by omega, hb.2.2⟩)
              have u2 := u1.snoc (hR3.mono (q := fun b => w.heap.size ≤ b ∧ b < w3.heap.size ∧ (Value.slice oo j oc).ownBlock ≠ some b) (fun b hb => ⟨by omega, hb.2, fun e => by have := (hge b e).2; omega⟩))
              refine (u2.kept k2 (fun b hb e => hb.2.2 e)).mono (fun b hb => ⟨hb.1, by omega, fun e => ?_⟩)
              rcases b2 with q | q
              · rw [q] at e; exact hb.2.2 e
              · rw [q] at e; simp at e; omega
            obtain ⟨a3, l3, c3, q3⟩ : ∃ a3 l3 c3, v3 = .slice a3 l3 c3 := let ⟨x, y, h, _⟩ := hR3.shape; ⟨x, _, y, h⟩
            subst q3
            clear hG hR3 hF3 hF23 HF2 o2 k2 b2 hge HA HI1 HQ HT2 HX
            go_wp2_with (at_builtin; refine Lib.wpList_append_run _ rfl _ _ _ _ rfl _ _ rfl rfl _ _ e2 ?_)
            go_roundw
            case rel => exact ⟨j + 1, us ++ [Value.slice a3 l3 c3], v2, hlt, by go_num, rfl, HN1.out⟩
            case measure => simp [RowKit.intOf]; omega
          · have h0' : (eF j == 0) = false := beq_eq_false_iff_ne.2 h0
            have HY : Hid (∀ W, Fresh wr W → _) := fun W hF => HX.out W hF h0
            clear HX HQ HI1 HA
            generalize eF j = E at *
            go_wp2_with fail
            refine (HCall.out ()).mono ?_
            rintro e w2 ⟨u, v, rfl, hu, hv, hD⟩
            have HT2 : Hid (Unit → _) := fun (_ : Unit) => HTo.out w2 u v _ _ hD.fresh hu hv
            have HF2 : Hid (Fresh wr w2) := hD.fresh
            clear hu hv hD HTo HCall
            go_wp2_with fail
            refine (HT2.out ()).mono ?_
            rintro e w3 ⟨v3, rfl, ho3, hF3⟩
            obtain ⟨a3, c3, e3⟩ := ownsRow_shape ho3
            subst e3
            have HZ : Hid _ := HY.out w3 (HF2.out.trans hF3 (fun _ _ e => e))
            clear ho3 hF3 HT2 HY HF2
            go_wp2
            go_ret3
            exact ⟨_, _, _, _, rfl, HZ.out⟩
        · have hfs' : decide (0 < first) = false := by simp; omega
          by_cases h0 : eF j = 0
          · rw [h0] at HTo
            go_wp2_with fail
            refine (HCall.out ()).mono ?_
            rintro e w2 ⟨u, v, rfl, hu, hv, hD⟩
            have HT2 : Hid (Unit → _) := fun (_ : Unit) => HTo.out w2 u v _ _ hD.fresh hu hv
            have HF2 : Hid (Fresh wr w2) := hD.fresh
            clear hu hv hD HTo HCall
            go_wp2_with fail
            refine (HT2.out ()).mono ?_
            rintro e w3 hG
            obtain ⟨v3, rfl, hR3, hF23⟩ := hG.row HI1.out.1 HI1.out.2
            have hF3 : Fresh wr w3 := HF2.out.trans hF23 (fun _ _ e => e)
            obtain ⟨v2, W2, e2, o2, k2, b2⟩ := pushL tyL8 w3 w.heap.size (.slice oo j oc) j us v3 hR3.oneCell (owns_kept HA.out.1 hF3 (fun _ _ e => e)) (by omega) (Nat.le_trans HA.out.2.2.1.size hF3.size)
            have hge : ∀ k, (Value.slice oo j oc).ownBlock = some k → w.heap.size ≤ k ∧ k < wr.heap.size := fun k hk => ⟨own_ge HA.out.1 hk, owns_lt HA.out.1 hk⟩
            have HN1 : Hid (W2.ownsRow w.heap.size 23 1 v2 (j + 1) (us ++ [v3]) ∧ Us .i8 (fun b => w.heap.size ≤ b ∧ b < W2.heap.size ∧ v2.ownBlock ≠ some b) W2 (us ++ [v3]) ((List.range (j + 1)).map lF) ∧ Fresh w W2 ∧ ∀ h, h < j + 1 → eF h = 0) := by
              have hs1 := HA.out.2.2.1.size
              have hs2 := hF3.size
              have hs3 := k2.size
              have hs4 := HF2.out.size
              refine ⟨o2, ?_, (HA.out.2.2.1.trans hF3 (fun _ _ e => e)).trans k2 (fun i hi e => by have := (hge i e).1; omega), HQ.out h0⟩
              rw [range_succL]
              have u1 : Us .i8 (fun b => w.heap.size ≤ b ∧ b < w3.heap.size ∧ (Value.slice oo j oc).ownBlock ≠ some b) w3 us ((List.range j).map lF) := (HA.out.2.1.kept hF3 (fun _ _ e => e)).mono (fun b hb => ⟨hb.1, by omega, hb.2.2⟩)
              have u2 := u1.snoc (hR3.mono (q := fun b => w.heap.size ≤ b ∧ b < w3.heap.size ∧ (Value.slice oo j oc).ownBlock ≠ some b) (fun b hb => ⟨by omega, hb.2, fun e => by have := (hge b e).2; omega⟩))
              refine (u2.kept k2 (fun b hb e => hb.2.2 e)).mono (fun b hb => ⟨hb.1, by omega, fun e => ?_⟩)
              rcases b2 with q | q
              · rw [q] at e; exact hb.2.2 e
              · rw [q] at e; simp at e; omega
            obtain ⟨a3, l3, c3, q3⟩ : ∃ a3 l3 c3, v3 = .slice a3 l3 c3 := let ⟨x, y, h, _⟩ := hR3.shape; ⟨x, _, y, h⟩
            subst q3
            clear hG hR3 hF3 hF23 HF2 o2 k2 b2 hge HA HI1 HQ HT2 HX
            go_wp2_with (at_builtin; refine Lib.wpList_append_run _ rfl _ _ _ _ rfl _ _ rfl rfl _ _ e2 ?_)
            go_roundw
            case rel => exact ⟨j + 1, us ++ [Value.slice a3 l3 c3], v2, hlt, by go_num, rfl, HN1.out⟩
            case measure => simp [RowKit.intOf]; omega
          · have h0' : (eF j == 0) = false := beq_eq_false_iff_ne.2 h0
            have HY : Hid (∀ W, Fresh wr W → _) := fun W hF => HX.out W hF h0
            clear HX HQ HI1 HA
            generalize eF j = E at *
            go_wp2_with fail
            refine (HCall.out ()).mono ?_
            rintro e w2 ⟨u, v, rfl, hu, hv, hD⟩
            have HT2 : Hid (Unit → _) := fun (_ : Unit) => HTo.out w2 u v _ _ hD.fresh hu hv
            have HF2 : Hid (Fresh wr w2) := hD.fresh
            clear hu hv hD HTo HCall
            go_wp2_with fail
            refine (HT2.out ()).mono ?_
            rintro e w3 ⟨v3, rfl, ho3, hF3⟩
            obtain ⟨a3, c3, e3⟩ := ownsRow_shape ho3
            subst e3
            have HZ : Hid _ := HY.out w3 (HF2.out.trans hF3 (fun _ _ e => e))
            clear ho3 hF3 HT2 HY HF2
            go_wp2
            go_ret3
            exact ⟨_, _, _, _, rfl, HZ.out⟩
      · have h3' : (atE cs.length ss.length hf P == 0) = false := beq_eq_false_iff_ne.2 h3
        have e1 := hE1 h3
        have HY : Hid (∀ W, Fresh wr W → _) := fun W hF => HX.out W hF (by rw [e1]; exact h3)
        rw [e1] at HY
        rw [atL_bad h3, atL_bad h3] at HCall
        clear hcell hr hE1 hE2 e1 HPl HG HEq HRx HC HX HI1 HA
        generalize atE cs.length ss.length hf P = E at *
        by_cases hfs : 0 < first
        · have hfp' := hfp hfs
          go_wp2_with fail
          refine (HCall.out ()).mono ?_
          rintro e w2 ⟨u, v, rfl, hu, hv, hD⟩
          have HZ : Hid _ := HY.out w2 hD.fresh
          clear hu hv hD HCall HY
          go_wp2
          go_ret3
          exact ⟨_, _, _, _, rfl, HZ.out⟩
        · have hfs' : decide (0 < first) = false := by simp; omega
          go_wp2_with fail
          refine (HCall.out ()).mono ?_
          rintro e w2 ⟨u, v, rfl, hu, hv, hD⟩
          have HZ : Hid _ := HY.out w2 hD.fresh
          clear hu hv hD HCall HY
          go_wp2
          go_ret3
          exact ⟨_, _, _, _, rfl, HZ.out⟩
    · obtain rfl : j = n := by omega
      have HX : Hid (RrIs j eF lF 0 0 ((List.range j).map lF) ∧ LL .i8 (fun b => w.heap.size ≤ b ∧ b < wr.heap.size) wr (.slice oo j oc) ((List.range j).map lF) ∧ Fresh w wr) := ⟨.inr ⟨HA.out.2.2.2, rfl, rfl, rfl⟩, ll_of_own HA.out.1 (HA.out.2.1.mono (fun b hb => ⟨hb.1, hb.2.1⟩)) (by simp; omega), HA.out.2.2.1⟩
      clear HA HC
      go_wp2
      go_ret3
      exact ⟨_, _, _, _, rfl, HX.out⟩
end Go.Proofs.YtkemaofclahaiabDoor
