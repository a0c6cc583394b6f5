/-
  Rows, the document's.
-/
import Derived.Test.YtibbifklnimlcaaNog
namespace Go.Proofs.Ytibbifklnimlcaa
open Go.RowKit Go.Lib Go.Maps

set_option maxHeartbeats 4000000 in
set_option maxRecDepth 100000 in
theorem refRows_any (p q : Nat → Prop) (lv gv : Value) (L : List (List Int)) (gs : List Int) (w : World) (hl : LL .i64 p w lv L) (hg : Rk .i8 q w gv gs) :
    Calls Try.prog 17 #[lv, gv] w fun e w' => ∃ I E R v, e = .returned (.tuple #[v, zV I, zV E]) ∧ (RaIs L gs I E R ∧ LL .i8 (fun b => w.heap.size ≤ b ∧ b < w'.heap.size) w' v R ∧ Fresh w w') := by
  have hmany := hl.many
  obtain ⟨ao, ac, hva, _⟩ := hl.shape
  obtain ⟨bo, bc, hvb, _⟩ := hg.shape
  subst hva
  have HC : Hid _ := hl.stay
  have HG : Hid (∀ W, Fresh w W → Rk .i8 q W gv gs) := fun W hF => hg.fresh hF
  obtain ⟨n, hn⟩ : ∃ n, L.length = n := ⟨_, rfl⟩
  have HN : Hid (L.length = n) := hn
  rw [hn] at HC hmany ⊢
  have hOL := own_empty w w.heap.size (Nat.le_refl _) 31
  have hFL : Fresh w (w.alloc (.cells #[] 31)) := (Kept.refl _ w).alloc _
  have HEm : Hid (∀ W, Fresh w W → LL .i8 (fun b => w.heap.size ≤ b ∧ b < (W.alloc (.cells #[] 31)).heap.size) (W.alloc (.cells #[] 31)) (.slice (some ⟨W.heap.size, 0, none⟩) 0 0) [] ∧ Fresh w (W.alloc (.cells #[] 31))) := fun W hF => ⟨⟨_, 0, rfl, by simp, fun h => absurd rfl h, fun _ => rfl, by simp⟩, hF.alloc _⟩
  generalize hW1 : w.alloc (.cells #[] 31) = W1 at *
  have HO : Hid (W1.ownsRow w.heap.size 31 1 (.slice (some ⟨w.heap.size, 0, none⟩) 0 0) 0 [] ∧ Us .i8 (fun b => w.heap.size ≤ b ∧ b < W1.heap.size ∧ (Value.slice (some ⟨w.heap.size, 0, none⟩) 0 0).ownBlock ≠ some b) W1 [] ((L.map (fun x => roL x gs)).take 0) ∧ Fresh w W1 ∧ ∀ h, h < 0 → roE (L.getD h []) gs = 0) := ⟨hOL, Us.nil _ _ _, hFL, fun h hh => by omega⟩
  subst hvb
  clear hl hg hOL hFL hn
  go_enter Try.func17, Try.ntmps17
  go_wp2
  clear hW1
  go_loopw [7, 8] (fun ov iv wr => ∃ (j : Nat) (us : List Value) (ov' : Value), j ≤ n ∧ iv = zV j ∧ ov = ov' ∧ Hid (wr.ownsRow w.heap.size 31 1 ov' j us ∧ Us .i8 (fun b => w.heap.size ≤ b ∧ b < wr.heap.size ∧ ov'.ownBlock ≠ some b) wr us ((L.map (fun x => roL x gs)).take j) ∧ Fresh w wr ∧ ∀ h, h < j → roE (L.getD h []) gs = 0)) (fun _ iv _ => n - (RowKit.intOf iv).toNat)
  case atStart => exact ⟨0, [], _, Nat.zero_le _, rfl, rfl, HO.out⟩
  case round =>
    obtain ⟨j, us, ov', hj, rfl, rfl, HA⟩ := hrel
    clear HO
    obtain ⟨oo, oc, hov⟩ := ownsRow_shape HA.out.1
    subst hov
    by_cases hlt : j < n
    · obtain ⟨b, off, rfl, hcell⟩ := HC.out (by omega)
      obtain ⟨a1, l1, c1, g1, hr⟩ := hcell wr HA.out.2.2.1 j hlt
      have HCall : Hid (Unit → _) := fun (_ : Unit) => refRow_any _ _ _ _ _ _ wr hr (HG.out wr HA.out.2.2.1)
      have hlt' : (j : Int) < (n : Int) := by omega
      have hjL : j < L.length := by rw [HN.out]; exact hlt
      by_cases h0 : roE (L.getD j []) gs = 0
      · have hstep : (L.map (fun x => roL x gs)).take (j + 1) = (L.map (fun x => roL x gs)).take j ++ [roL (L.getD j []) gs] := map_take_succ hjL
        have hnext : ∀ h, h < j + 1 → roE (L.getD h []) gs = 0 := fun h hh => by
          rcases Nat.lt_or_ge h j with e | e
          · exact HA.out.2.2.2 h e
          · obtain rfl : h = j := by omega
            exact h0
        have HI1 : Hid ((roL (L.getD j []) gs).length * kb .i8 ≤ 140737488351232 ∧ ∀ z ∈ roL (L.getD j []) gs, Fit .i8 z) := ⟨by have := roL_len (L.getD j []) gs; simp only [kb]; omega, roL_fit _ gs⟩
        rw [h0] at HCall
        have HQ : Hid ((L.map (fun x => roL x gs)).take (j + 1) = (L.map (fun x => roL x gs)).take j ++ [roL (L.getD j []) gs] ∧ ∀ h, h < j + 1 → roE (L.getD h []) gs = 0) := ⟨hstep, hnext⟩
        clear hcell hr hstep hnext hjL h0
        go_wp2_with fail
        refine (HCall.out ()).mono ?_
        rintro e w3 hG
        obtain ⟨v3, rfl, hR3, hF3⟩ := hG.row HI1.out.1 HI1.out.2
        obtain ⟨v2, W2, e2, o2, k2, b2⟩ := pushL tyL8 w3 w.heap.size (.slice oo j oc) j us v3 hR3.oneCell (owns_kept HA.out.1 hF3 (fun _ _ e => e)) (by omega) (Nat.le_trans HA.out.2.2.1.size hF3.size)
        have hge : ∀ k, (Value.slice oo j oc).ownBlock = some k → w.heap.size ≤ k ∧ k < wr.heap.size := fun k hk => ⟨own_ge HA.out.1 hk, owns_lt HA.out.1 hk⟩
        have HN1 : Hid (W2.ownsRow w.heap.size 31 1 v2 (j + 1) (us ++ [v3]) ∧ Us .i8 (fun b => w.heap.size ≤ b ∧ b < W2.heap.size ∧ v2.ownBlock ≠ some b) W2 (us ++ [v3]) ((L.map (fun x => roL x gs)).take (j + 1)) ∧ Fresh w W2 ∧ ∀ h, h < j + 1 → roE (L.getD h []) gs = 0) := by
          have hs1 := HA.out.2.2.1.size
          have hs2 := hF3.size
          have hs3 := k2.size
          refine ⟨o2, ?_, (HA.out.2.2.1.trans hF3 (fun _ _ e => e)).trans k2 (fun i hi e => by have := (hge i e).1; omega), HQ.out.2⟩
          rw [HQ.out.1]
          have u1 : Us .i8 (fun b => w.heap.size ≤ b ∧ b < w3.heap.size ∧ (Value.slice oo j oc).ownBlock ≠ some b) w3 us ((L.map (fun x => roL x gs)).take j) := (HA.out.2.1.kept hF3 (fun _ _ e => e)).mono (fun b hb => ⟨hb.1, by omega, hb.2.2⟩)
          have u2 := u1.snoc (hR3.mono (q := fun b => w.heap.size ≤ b ∧ b < w3.heap.size ∧ (Value.slice oo j oc).ownBlock ≠ some b) (fun b hb => ⟨by omega, hb.2, fun e => by have := (hge b e).2; omega⟩))
          refine (u2.kept k2 (fun b hb e => hb.2.2 e)).mono (fun b hb => ⟨hb.1, by omega, fun e => ?_⟩)
          rcases b2 with q | q
          · rw [q] at e; exact hb.2.2 e
          · rw [q] at e; simp at e; omega
        obtain ⟨a3, l3, c3, q3⟩ : ∃ a3 l3 c3, v3 = .slice a3 l3 c3 := let ⟨x, y, h, _⟩ := hR3.shape; ⟨x, _, y, h⟩
        subst q3
        clear hG hR3 hF3 o2 k2 b2 hge HA HCall HI1 HQ
        go_wp2_with (at_builtin; refine Lib.wpList_append_run _ rfl _ _ _ _ rfl _ _ rfl rfl _ _ e2 ?_)
        go_roundw
        case rel => exact ⟨j + 1, us ++ [Value.slice a3 l3 c3], v2, hlt, by go_num, rfl, HN1.out⟩
        case measure => simp [RowKit.intOf]; omega
      · have HX : Hid (RaIs L gs (j : Int) (roE (L.getD j []) gs) [] ∧ Fresh w wr) := ⟨.inl ⟨j, hjL, h0, HA.out.2.2.2, rfl, rfl, rfl⟩, HA.out.2.2.1⟩
        have h0' : (roE (L.getD j []) gs == 0) = false := beq_eq_false_iff_ne.2 h0
        clear hcell hr hjL h0 HA
        generalize roE (L.getD j []) gs = E at *
        go_wp2_with fail
        refine (HCall.out ()).mono ?_
        rintro e w3 ⟨v3, rfl, ho3, hF3⟩
        obtain ⟨a3, c3, e3⟩ := ownsRow_shape ho3
        subst e3
        have HY : Hid (RaIs L gs (j : Int) E [] ∧ _) := ⟨HX.out.1, HEm.out w3 (HX.out.2.trans hF3 (fun _ _ e => e))⟩
        clear ho3 hF3 HCall HX HEm
        go_wp2
        go_ret3
        exact ⟨_, _, _, _, rfl, HY.out.1, HY.out.2.1, HY.out.2.2⟩
    · obtain rfl : j = n := by omega
      have HX : Hid (RaIs L gs 0 0 (L.map (fun x => roL x gs)) ∧ LL .i8 (fun b => w.heap.size ≤ b ∧ b < wr.heap.size) wr (.slice oo j oc) (L.map (fun x => roL x gs)) ∧ Fresh w wr) := by
        have hu := HA.out.2.1
        rw [List.take_of_length_le (by simp; rw [HN.out]; exact Nat.le_refl _)] at hu
        exact ⟨.inr ⟨fun i hi => HA.out.2.2.2 i (by rw [HN.out] at hi; exact hi), rfl, rfl, rfl⟩, ll_of_own HA.out.1 (hu.mono (fun b hb => ⟨hb.1, hb.2.1⟩)) (by rw [List.length_map, HN.out]; omega), HA.out.2.2.1⟩
      clear HA HC
      go_wp2
      go_ret3
      exact ⟨_, _, _, _, rfl, HX.out⟩
end Go.Proofs.Ytibbifklnimlcaa
