/-
  Lists of rows of 8 bits held against one another; a list of rows copied.
-/
import Derived.Test.YtjffiojjjmecgaaVcj
namespace Go.Proofs.Ytjffiojjjmecgaa
open Go.RowKit Go.Lib Go.Maps

set_option maxHeartbeats 2000000 in
set_option maxRecDepth 100000 in
theorem rows8_any (p q : Nat → Prop) (a b : Value) (L : List (List Int)) (w : World) (ha : LL .i8 p w a L) (hb : LL .i8 q w b L) :
    Calls Try.prog 20 #[a, b] w fun e w' => e = .returned (.bool true) ∧ ∃ n, w' = w.drewN n := by
  have hmany := ha.many
  obtain ⟨ao, ac, rfl, _⟩ := ha.shape
  obtain ⟨bo, bc, rfl, _⟩ := hb.shape
  obtain ⟨_, _, hca⟩ := ha.cells
  obtain ⟨_, _, hcb⟩ := hb.cells
  obtain ⟨n, hn⟩ : ∃ n, L.length = n := ⟨_, rfl⟩
  rw [hn] at hca hcb hmany ⊢
  clear ha hb hn
  go_enter Try.func20, Try.ntmps20
  go_wp2
  go_loopw [13] (fun i wr => ∃ j : Nat, j ≤ n ∧ i = zV j ∧ ∃ n, wr = w.drewN n) (fun i _ => n - (RowKit.intOf i).toNat)
  case atStart => exact ⟨0, Nat.zero_le _, rfl, 0, rfl⟩
  case round =>
    obtain ⟨j, hj, rfl, d, hd⟩ := hrel
    have HWr : Hid (wr = w.drewN d ∧ Fresh w wr) := ⟨hd, by rw [hd]; exact kept_drewN _ _ _⟩
    clear hd
    by_cases hlt : j < n
    · obtain ⟨ab, aoff, rfl, _, k1, h1⟩ := hca (by omega)
      obtain ⟨bb, boff, rfl, _, k2, h2⟩ := hcb (by omega)
      obtain ⟨u1, g1, r1⟩ := h1 j hlt
      obtain ⟨u2, g2, r2⟩ := h2 j hlt
      have HS : Hid (∀ m, Calls Try.prog 19 #[u1, u2] (wr.drewN m) fun e w' => e = .returned (.bool true) ∧ ∃ n, w' = (wr.drewN m).drewN n) := fun m => same8_any p q u1 u2 _ _ ((r1.fresh (HWr.out.2)).fresh (kept_drewN _ _ _)) ((r2.fresh (HWr.out.2)).fresh (kept_drewN _ _ _))
      have g1 : wr.cell? ⟨ab, aoff + j, none⟩ = some u1 := (HWr.out.2.cell (p := ⟨ab, aoff + j, none⟩) k1 (fun e => e)).trans g1
      have g2 : wr.cell? ⟨bb, boff + j, none⟩ = some u2 := (HWr.out.2.cell (p := ⟨bb, boff + j, none⟩) k2 (fun e => e)).trans g2
      obtain ⟨a1, l1, c1, q1⟩ : ∃ a1 l1 c1, u1 = .slice a1 l1 c1 := let ⟨x, y, h, _⟩ := r1.shape; ⟨x, _, y, h⟩
      obtain ⟨a2, l2, c2, q2⟩ : ∃ a2 l2 c2, u2 = .slice a2 l2 c2 := let ⟨x, y, h, _⟩ := r2.shape; ⟨x, _, y, h⟩
      subst q1
      subst q2
      have hlt' : (j : Int) < (n : Int) := by omega
      clear h1 h2 hca hcb r1 r2
      go_wp2_with fail
      go_quiet ((go_at_call 19; exact Calls.quiet_of (HS.out _)))
      go_wp2
      go_roundw
      case rel => exact ⟨j + 1, hlt, by go_num, d + nq, by rw [HWr.out.1, World.drewN_drewN]⟩
      case measure => simp [RowKit.intOf]; omega
    · obtain rfl : j = n := by omega
      clear hca hcb
      go_wp2
      go_ret
      exact ⟨rfl, d, HWr.out.1⟩

set_option maxHeartbeats 4000000 in
set_option maxRecDepth 100000 in
theorem copied_any (p : Nat → Prop) (xv : Value) (L : List (List Int)) (w : World) (hx : LL .i8 p w xv L) :
    Calls Try.prog 12 #[xv] w fun e w' => ∃ v, e = .returned v ∧ LL .i8 (fun b => w.heap.size ≤ b ∧ b < w'.heap.size) w' v L ∧ Fresh w w' := by
  have hmany := hx.many
  obtain ⟨ao, ac, rfl, _⟩ := hx.shape
  obtain ⟨_, _, hc⟩ := hx.cells
  obtain ⟨n, hn⟩ : ∃ n, L.length = n := ⟨_, rfl⟩
  have HN : Hid (L.length = n) := hn
  have HC : Hid (0 < n → ∃ b off, ao = some ⟨b, off, none⟩ ∧ ∀ W, Fresh w W → ∀ i, i < n → ∃ u, W.cell? ⟨b, off + i, none⟩ = some u ∧ Rk .i8 p W u (L.getD i [])) := fun hp => by
    obtain ⟨b, off, e, _, hb, hcell⟩ := hc (by omega)
    exact ⟨b, off, e, fun W hF i hi => let ⟨u, h1, h2⟩ := hcell i (by omega); ⟨u, (hF.cell (p := ⟨b, off + i, none⟩) hb (fun e => e)).trans h1, h2.fresh hF⟩⟩
  rw [hn] at hmany ⊢
  have HO : Hid (w.ownsRow w.heap.size 22 1 (.slice none 0 0) 0 [] ∧ Us .i8 (fun b => w.heap.size ≤ b ∧ b < w.heap.size ∧ (Value.slice none 0 0).ownBlock ≠ some b) w [] (L.take 0) ∧ Fresh w w) := ⟨own_nil _ _ _, Us.nil _ _ _, Kept.refl _ _⟩
  clear hc hx hn
  go_enter Try.func12, Try.ntmps12
  go_wp2
  go_loopw [3, 8] (fun ov iv wr => ∃ (j : Nat) (us : List Value) (ov' : Value), j ≤ n ∧ iv = zV j ∧ ov = ov' ∧ Hid (wr.ownsRow w.heap.size 22 1 ov' j us ∧ Us .i8 (fun b => w.heap.size ≤ b ∧ b < wr.heap.size ∧ ov'.ownBlock ≠ some b) wr us (L.take j) ∧ Fresh w wr)) (fun _ iv _ => n - (RowKit.intOf iv).toNat)
  case atStart => exact ⟨0, [], _, Nat.zero_le _, rfl, rfl, HO.out⟩
  case round =>
    obtain ⟨j, us, ov', hj, rfl, rfl, HA⟩ := hrel
    clear HO
    obtain ⟨oo, oc, hov⟩ := ownsRow_shape HA.out.1
    subst hov
    by_cases hlt : j < n
    · obtain ⟨b, off, rfl, hcell⟩ := HC.out (by omega)
      obtain ⟨u, g1, hr⟩ := hcell wr HA.out.2.2 j hlt
      have hF1 : Fresh wr (wr.alloc (.cells #[] 49)) := (Kept.refl _ wr).alloc _
      obtain ⟨t1, W1, e1, o1, k1⟩ := twin ty8 22 (wr.alloc (.cells #[] 49)) wr.heap.size _ [] (own_empty wr _ (Nat.le_refl _) _) hF1.size u _ _ (hr.fresh hF1) (by have := hr.len; simpa using this)
      have hF2 : Fresh wr W1 := hF1.grown k1 (fun k hk e => by simp [Value.ownBlock] at e; omega)
      simp only [List.length_nil, Nat.zero_add, List.nil_append] at o1
      have hR1 := rk_of_own o1 hr.len hr.all
      obtain ⟨v2, W2, e2, o2, k2, b2⟩ := pushL tyL8 W1 w.heap.size (.slice oo j oc) j us t1 hR1.oneCell (owns_kept HA.out.1 hF2 (fun _ _ e => e)) (by omega) (Nat.le_trans HA.out.2.2.size hF2.size)
      have hge : ∀ k, (Value.slice oo j oc).ownBlock = some k → w.heap.size ≤ k ∧ k < wr.heap.size := fun k hk => ⟨own_ge HA.out.1 hk, owns_lt HA.out.1 hk⟩
      have HN1 : Hid (W2.ownsRow w.heap.size 22 1 v2 (j + 1) (us ++ [t1]) ∧ Us .i8 (fun b => w.heap.size ≤ b ∧ b < W2.heap.size ∧ v2.ownBlock ≠ some b) W2 (us ++ [t1]) (L.take (j + 1)) ∧ Fresh w W2) := by
        have hs1 := HA.out.2.2.size
        have hs2 := hF2.size
        have hs3 := k2.size
        refine ⟨o2, ?_, (HA.out.2.2.trans hF2 (fun _ _ e => e)).trans k2 (fun i hi e => by have := (hge i e).1; omega)⟩
        have hj2 : L.take (j + 1) = L.take j ++ [L.getD j []] := by
          have hjl : j < L.length := by rw [HN.out]; exact hlt
          rw [List.take_succ_eq_append_getElem hjl, List.getD_eq_getElem?_getD, List.getElem?_eq_getElem hjl]; rfl
        rw [hj2]
        have u1 : Us .i8 (fun b => w.heap.size ≤ b ∧ b < W1.heap.size ∧ (Value.slice oo j oc).ownBlock ≠ some b) W1 us (L.take j) := (HA.out.2.1.kept hF2 (fun _ _ e => e)).mono (fun b hb => ⟨hb.1, by omega, hb.2.2⟩)
        have u2 : Us .i8 (fun b => w.heap.size ≤ b ∧ b < W1.heap.size ∧ (Value.slice oo j oc).ownBlock ≠ some b) W1 (us ++ [t1]) (L.take j ++ [L.getD j []]) := u1.snoc (hR1.mono (fun b hb => ⟨by omega, hb.2, fun e => by have := (hge b e).2; omega⟩))
        refine (u2.kept k2 (fun b hb e => hb.2.2 e)).mono (fun b hb => ⟨hb.1, by omega, fun e => ?_⟩)
        rcases b2 with q | q
        · rw [q] at e; exact hb.2.2 e
        · rw [q] at e; simp at e; omega
      obtain ⟨a1, l1, c1, q1⟩ : ∃ a1 l1 c1, u = .slice a1 l1 c1 := let ⟨x, y, h, _⟩ := hr.shape; ⟨x, _, y, h⟩
      subst q1
      obtain ⟨a3, l3, c3, q3⟩ : ∃ a3 l3 c3, t1 = .slice a3 l3 c3 := let ⟨x, y, h, _⟩ := hR1.shape; ⟨x, _, y, h⟩
      subst q3
      have hlt' : (j : Int) < (n : Int) := by omega
      clear hcell hr hF1 k1 hF2 o1 hR1 o2 k2 hge HA b2
      go_wp2_with (at_builtin; first | (refine Lib.wpList_append_run _ rfl _ _ _ _ rfl _ _ rfl rfl _ _ e1 ?_; clear e1) | (refine Lib.wpList_append_run _ rfl _ _ _ _ rfl _ _ rfl rfl _ _ e2 ?_; clear e2))
      go_roundw
      case rel => exact ⟨j + 1, us ++ [Value.slice a3 l3 c3], v2, hlt, by go_num, rfl, HN1.out⟩
      case measure => simp [RowKit.intOf]; omega
    · obtain rfl : j = n := by omega
      have HX : Hid (LL .i8 (fun b => w.heap.size ≤ b ∧ b < wr.heap.size) wr (.slice oo j oc) L ∧ Fresh w wr) := by
        have hu := HA.out.2.1
        rw [List.take_of_length_le (by rw [HN.out]; exact Nat.le_refl _)] at hu
        exact ⟨ll_of_own HA.out.1 (hu.mono (fun b hb => ⟨hb.1, hb.2.1⟩)) (by rw [HN.out]; omega), HA.out.2.2⟩
      clear HA HC
      go_wp2
      go_ret
      exact ⟨_, rfl, HX.out.1, HX.out.2⟩
end Go.Proofs.Ytjffiojjjmecgaa
