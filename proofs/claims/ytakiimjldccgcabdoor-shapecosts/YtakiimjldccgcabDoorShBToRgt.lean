/-
  Check, the package's and the document's.
-/
import Derived.Test.YtakiimjldccgcabDoorFilToShA
import Derived.Test.YtakiimjldccgcabDoorVcNToFrQ
import Derived.Orders
import Derived.RegionTactic
namespace Go.Proofs.YtakiimjldccgcabDoor
open Go.RowKit Go.Lib Go.Maps

set_option maxHeartbeats 1000000 in
set_option maxRecDepth 100000 in
theorem Check_any (s : Shp) (w : World) : Calls Tryd.prog 11 #[s.val] w fun e w' => e = .returned (zV (shE s)) ∧ w' = w.alloc (.cells #[zV s.v, zV s.c, zV s.d, zV s.h, zV s.l, zV s.n] 23) := by
  obtain ⟨v, c, d, h, l, n⟩ := s
  have HE : Hid (∀ b, shB ⟨v, c, d, h, l, n⟩ = b → shE ⟨v, c, d, h, l, n⟩ = if b = true then 0 else 160) := fun b e => by rw [← e]; rfl
  have HB : Hid (shB ⟨v, c, d, h, l, n⟩ = (wiB v 2 512 && (wiB c 1 512 && (wiB d 2 64 && (icB d h && (wiB l 1 8 && wiB n 1 256)))))) := rfl
  generalize shE ⟨v, c, d, h, l, n⟩ = E at *
  generalize shB ⟨v, c, d, h, l, n⟩ = B at *
  unfold Shp.val
  cases h0 : wiB v 2 512 with
  | false =>
    have H0 : Hid (∀ W, Calls Tryd.prog 24 #[zV v, zV 2, zV 512] W fun e w' => e = .returned (.bool false) ∧ w' = W) := fun W => h0 ▸ within_any v 2 512 W
    obtain rfl : E = 160 := HE.out false (by rw [HB.out, h0]; simp)
    clear HE HB h0
    go_enter Tryd.func11, Tryd.ntmps11
    go_wp2_with (first | (with_reducible refine Calls.mono (H0.out _) ?_; rintro e X ⟨rfl, rfl⟩))
    go_ret
    exact ⟨rfl, rfl⟩
  | true =>
    have H0 : Hid (∀ W, Calls Tryd.prog 24 #[zV v, zV 2, zV 512] W fun e w' => e = .returned (.bool true) ∧ w' = W) := fun W => h0 ▸ within_any v 2 512 W
    cases h1 : wiB c 1 512 with
    | false =>
      have H1 : Hid (∀ W, Calls Tryd.prog 24 #[zV c, zV 1, zV 512] W fun e w' => e = .returned (.bool false) ∧ w' = W) := fun W => h1 ▸ within_any c 1 512 W
      obtain rfl : E = 160 := HE.out false (by rw [HB.out, h0, h1]; simp)
      clear HE HB h0 h1
      go_enter Tryd.func11, Tryd.ntmps11
      go_wp2_with (first | (with_reducible refine Calls.mono (H0.out _) ?_; rintro e X ⟨rfl, rfl⟩) | (with_reducible refine Calls.mono (H1.out _) ?_; rintro e X ⟨rfl, rfl⟩))
      go_ret
      exact ⟨rfl, rfl⟩
    | true =>
      have H1 : Hid (∀ W, Calls Tryd.prog 24 #[zV c, zV 1, zV 512] W fun e w' => e = .returned (.bool true) ∧ w' = W) := fun W => h1 ▸ within_any c 1 512 W
      cases h2 : wiB d 2 64 with
      | false =>
        have H2 : Hid (∀ W, Calls Tryd.prog 24 #[zV d, zV 2, zV 64] W fun e w' => e = .returned (.bool false) ∧ w' = W) := fun W => h2 ▸ within_any d 2 64 W
        obtain rfl : E = 160 := HE.out false (by rw [HB.out, h0, h1, h2]; simp)
        clear HE HB h0 h1 h2
        go_enter Tryd.func11, Tryd.ntmps11
        go_wp2_with (first | (with_reducible refine Calls.mono (H0.out _) ?_; rintro e X ⟨rfl, rfl⟩) | (with_reducible refine Calls.mono (H1.out _) ?_; rintro e X ⟨rfl, rfl⟩) | (with_reducible refine Calls.mono (H2.out _) ?_; rintro e X ⟨rfl, rfl⟩))
        go_ret
        exact ⟨rfl, rfl⟩
      | true =>
        have H2 : Hid (∀ W, Calls Tryd.prog 24 #[zV d, zV 2, zV 64] W fun e w' => e = .returned (.bool true) ∧ w' = W) := fun W => h2 ▸ within_any d 2 64 W
        have hd := (wiB_iff d 2 64).1 h2
        cases h3 : icB d h with
        | false =>
          have H3 : Hid (∀ W, Calls Tryd.prog 28 #[zV d, zV h] W fun e w' => e = .returned (.bool false) ∧ w' = W) := fun W => h3 ▸ isCut_any d h W hd
          obtain rfl : E = 160 := HE.out false (by rw [HB.out, h0, h1, h2, h3]; simp)
          clear HE HB hd h0 h1 h2 h3
          go_enter Tryd.func11, Tryd.ntmps11
          go_wp2_with (first | (with_reducible refine Calls.mono (H0.out _) ?_; rintro e X ⟨rfl, rfl⟩) | (with_reducible refine Calls.mono (H1.out _) ?_; rintro e X ⟨rfl, rfl⟩) | (with_reducible refine Calls.mono (H2.out _) ?_; rintro e X ⟨rfl, rfl⟩) | (with_reducible refine Calls.mono (H3.out _) ?_; rintro e X ⟨rfl, rfl⟩))
          go_ret
          exact ⟨rfl, rfl⟩
        | true =>
          have H3 : Hid (∀ W, Calls Tryd.prog 28 #[zV d, zV h] W fun e w' => e = .returned (.bool true) ∧ w' = W) := fun W => h3 ▸ isCut_any d h W hd
          cases h4 : wiB l 1 8 with
          | false =>
            have H4 : Hid (∀ W, Calls Tryd.prog 24 #[zV l, zV 1, zV 8] W fun e w' => e = .returned (.bool false) ∧ w' = W) := fun W => h4 ▸ within_any l 1 8 W
            obtain rfl : E = 160 := HE.out false (by rw [HB.out, h0, h1, h2, h3, h4]; simp)
            clear HE HB hd h0 h1 h2 h3 h4
            go_enter Tryd.func11, Tryd.ntmps11
            go_wp2_with (first | (with_reducible refine Calls.mono (H0.out _) ?_; rintro e X ⟨rfl, rfl⟩) | (with_reducible refine Calls.mono (H1.out _) ?_; rintro e X ⟨rfl, rfl⟩) | (with_reducible refine Calls.mono (H2.out _) ?_; rintro e X ⟨rfl, rfl⟩) | (with_reducible refine Calls.mono (H3.out _) ?_; rintro e X ⟨rfl, rfl⟩) | (with_reducible refine Calls.mono (H4.out _) ?_; rintro e X ⟨rfl, rfl⟩))
            go_ret
            exact ⟨rfl, rfl⟩
          | true =>
            have H4 : Hid (∀ W, Calls Tryd.prog 24 #[zV l, zV 1, zV 8] W fun e w' => e = .returned (.bool true) ∧ w' = W) := fun W => h4 ▸ within_any l 1 8 W
            cases h5 : wiB n 1 256 with
            | false =>
              have H5 : Hid (∀ W, Calls Tryd.prog 24 #[zV n, zV 1, zV 256] W fun e w' => e = .returned (.bool false) ∧ w' = W) := fun W => h5 ▸ within_any n 1 256 W
              obtain rfl : E = 160 := HE.out false (by rw [HB.out, h0, h1, h2, h3, h4, h5]; simp)
              clear HE HB hd h0 h1 h2 h3 h4 h5
              go_enter Tryd.func11, Tryd.ntmps11
              go_wp2_with (first | (with_reducible refine Calls.mono (H0.out _) ?_; rintro e X ⟨rfl, rfl⟩) | (with_reducible refine Calls.mono (H1.out _) ?_; rintro e X ⟨rfl, rfl⟩) | (with_reducible refine Calls.mono (H2.out _) ?_; rintro e X ⟨rfl, rfl⟩) | (with_reducible refine Calls.mono (H3.out _) ?_; rintro e X ⟨rfl, rfl⟩) | (with_reducible refine Calls.mono (H4.out _) ?_; rintro e X ⟨rfl, rfl⟩) | (with_reducible refine Calls.mono (H5.out _) ?_; rintro e X ⟨rfl, rfl⟩))
              go_ret
              exact ⟨rfl, rfl⟩
            | true =>
              have H5 : Hid (∀ W, Calls Tryd.prog 24 #[zV n, zV 1, zV 256] W fun e w' => e = .returned (.bool true) ∧ w' = W) := fun W => h5 ▸ within_any n 1 256 W
              obtain rfl : E = 0 := HE.out true (by rw [HB.out, h0, h1, h2, h3, h4, h5]; simp)
              clear HE HB hd h0 h1 h2 h3 h4 h5
              go_enter Tryd.func11, Tryd.ntmps11
              go_wp2_with (first | (with_reducible refine Calls.mono (H0.out _) ?_; rintro e X ⟨rfl, rfl⟩) | (with_reducible refine Calls.mono (H1.out _) ?_; rintro e X ⟨rfl, rfl⟩) | (with_reducible refine Calls.mono (H2.out _) ?_; rintro e X ⟨rfl, rfl⟩) | (with_reducible refine Calls.mono (H3.out _) ?_; rintro e X ⟨rfl, rfl⟩) | (with_reducible refine Calls.mono (H4.out _) ?_; rintro e X ⟨rfl, rfl⟩) | (with_reducible refine Calls.mono (H5.out _) ?_; rintro e X ⟨rfl, rfl⟩))
              go_ret
              exact ⟨rfl, rfl⟩
set_option maxHeartbeats 1000000 in
set_option maxRecDepth 100000 in
theorem refCheck16_any (s : Shp) (w : World) : Calls Tryd.prog 26 #[s.val] w fun e w' => e = .returned (zV (shE s)) ∧ w' = w.alloc (.cells #[zV s.v, zV s.c, zV s.d, zV s.h, zV s.l, zV s.n] 33) := by
  obtain ⟨v, c, d, h, l, n⟩ := s
  have HE : Hid (∀ b, shB ⟨v, c, d, h, l, n⟩ = b → shE ⟨v, c, d, h, l, n⟩ = if b = true then 0 else 160) := fun b e => by rw [← e]; rfl
  have HB : Hid (shB ⟨v, c, d, h, l, n⟩ = (wiB v 2 512 && (wiB c 1 512 && (wiB d 2 64 && (icB d h && (wiB l 1 8 && wiB n 1 256)))))) := rfl
  generalize shE ⟨v, c, d, h, l, n⟩ = E at *
  generalize shB ⟨v, c, d, h, l, n⟩ = B at *
  unfold Shp.val
  cases h0 : wiB v 2 512 with
  | false =>
    have H0 : Hid (∀ W, Calls Tryd.prog 51 #[zV v, zV 2, zV 512] W fun e w' => e = .returned (.bool false) ∧ w' = W) := fun W => h0 ▸ rwithin_any v 2 512 W
    obtain rfl : E = 160 := HE.out false (by rw [HB.out, h0]; simp)
    clear HE HB h0
    go_enter Tryd.func26, Tryd.ntmps26
    go_wp2_with (first | (with_reducible refine Calls.mono (H0.out _) ?_; rintro e X ⟨rfl, rfl⟩))
    go_ret
    exact ⟨rfl, rfl⟩
  | true =>
    have H0 : Hid (∀ W, Calls Tryd.prog 51 #[zV v, zV 2, zV 512] W fun e w' => e = .returned (.bool true) ∧ w' = W) := fun W => h0 ▸ rwithin_any v 2 512 W
    cases h1 : wiB c 1 512 with
    | false =>
      have H1 : Hid (∀ W, Calls Tryd.prog 51 #[zV c, zV 1, zV 512] W fun e w' => e = .returned (.bool false) ∧ w' = W) := fun W => h1 ▸ rwithin_any c 1 512 W
      obtain rfl : E = 160 := HE.out false (by rw [HB.out, h0, h1]; simp)
      clear HE HB h0 h1
      go_enter Tryd.func26, Tryd.ntmps26
      go_wp2_with (first | (with_reducible refine Calls.mono (H0.out _) ?_; rintro e X ⟨rfl, rfl⟩) | (with_reducible refine Calls.mono (H1.out _) ?_; rintro e X ⟨rfl, rfl⟩))
      go_ret
      exact ⟨rfl, rfl⟩
    | true =>
      have H1 : Hid (∀ W, Calls Tryd.prog 51 #[zV c, zV 1, zV 512] W fun e w' => e = .returned (.bool true) ∧ w' = W) := fun W => h1 ▸ rwithin_any c 1 512 W
      cases h2 : wiB d 2 64 with
      | false =>
        have H2 : Hid (∀ W, Calls Tryd.prog 51 #[zV d, zV 2, zV 64] W fun e w' => e = .returned (.bool false) ∧ w' = W) := fun W => h2 ▸ rwithin_any d 2 64 W
        obtain rfl : E = 160 := HE.out false (by rw [HB.out, h0, h1, h2]; simp)
        clear HE HB h0 h1 h2
        go_enter Tryd.func26, Tryd.ntmps26
        go_wp2_with (first | (with_reducible refine Calls.mono (H0.out _) ?_; rintro e X ⟨rfl, rfl⟩) | (with_reducible refine Calls.mono (H1.out _) ?_; rintro e X ⟨rfl, rfl⟩) | (with_reducible refine Calls.mono (H2.out _) ?_; rintro e X ⟨rfl, rfl⟩))
        go_ret
        exact ⟨rfl, rfl⟩
      | true =>
        have H2 : Hid (∀ W, Calls Tryd.prog 51 #[zV d, zV 2, zV 64] W fun e w' => e = .returned (.bool true) ∧ w' = W) := fun W => h2 ▸ rwithin_any d 2 64 W
        cases h3 : wiB l 1 8 with
        | false =>
          have H3 : Hid (∀ W, Calls Tryd.prog 51 #[zV l, zV 1, zV 8] W fun e w' => e = .returned (.bool false) ∧ w' = W) := fun W => h3 ▸ rwithin_any l 1 8 W
          obtain rfl : E = 160 := HE.out false (by rw [HB.out, h0, h1, h2, h3]; simp)
          clear HE HB h0 h1 h2 h3
          go_enter Tryd.func26, Tryd.ntmps26
          go_wp2_with (first | (with_reducible refine Calls.mono (H0.out _) ?_; rintro e X ⟨rfl, rfl⟩) | (with_reducible refine Calls.mono (H1.out _) ?_; rintro e X ⟨rfl, rfl⟩) | (with_reducible refine Calls.mono (H2.out _) ?_; rintro e X ⟨rfl, rfl⟩) | (with_reducible refine Calls.mono (H3.out _) ?_; rintro e X ⟨rfl, rfl⟩))
          go_ret
          exact ⟨rfl, rfl⟩
        | true =>
          have H3 : Hid (∀ W, Calls Tryd.prog 51 #[zV l, zV 1, zV 8] W fun e w' => e = .returned (.bool true) ∧ w' = W) := fun W => h3 ▸ rwithin_any l 1 8 W
          cases h4 : wiB n 1 256 with
          | false =>
            have H4 : Hid (∀ W, Calls Tryd.prog 51 #[zV n, zV 1, zV 256] W fun e w' => e = .returned (.bool false) ∧ w' = W) := fun W => h4 ▸ rwithin_any n 1 256 W
            obtain rfl : E = 160 := HE.out false (by rw [HB.out, h0, h1, h2, h3, h4]; simp)
            clear HE HB h0 h1 h2 h3 h4
            go_enter Tryd.func26, Tryd.ntmps26
            go_wp2_with (first | (with_reducible refine Calls.mono (H0.out _) ?_; rintro e X ⟨rfl, rfl⟩) | (with_reducible refine Calls.mono (H1.out _) ?_; rintro e X ⟨rfl, rfl⟩) | (with_reducible refine Calls.mono (H2.out _) ?_; rintro e X ⟨rfl, rfl⟩) | (with_reducible refine Calls.mono (H3.out _) ?_; rintro e X ⟨rfl, rfl⟩) | (with_reducible refine Calls.mono (H4.out _) ?_; rintro e X ⟨rfl, rfl⟩))
            go_ret
            exact ⟨rfl, rfl⟩
          | true =>
            have H4 : Hid (∀ W, Calls Tryd.prog 51 #[zV n, zV 1, zV 256] W fun e w' => e = .returned (.bool true) ∧ w' = W) := fun W => h4 ▸ rwithin_any n 1 256 W
            obtain ⟨d1, d2⟩ := (wiB_iff d 2 64).1 h2
            have HQ : Hid (1 ≤ h → 0 ≤ d / h ∧ d / h ≤ 64) := fun e => ic_quot ⟨d1, d2⟩ e
            have HC : Hid (∀ b, icB d h = b → E = if b = true then 0 else 160) := fun b e => HE.out b (by rw [HB.out, h0, h1, h2, h3, h4, e]; simp)
            have HI : Hid (icB d h = (decide (1 ≤ h) && ((d % h == 0) && (d / h % 2 == 0)))) := rfl
            clear HE HB h0 h1 h2 h3 h4
            by_cases hh : h < 1
            · have hh2 : ¬ 1 ≤ h := by omega
              obtain rfl : E = 160 := HC.out false (by rw [HI.out]; simp [hh2])
              clear HC HI HQ
              go_enter Tryd.func26, Tryd.ntmps26
              go_wp2_with (first | (with_reducible refine Calls.mono (H0.out _) ?_; rintro e X ⟨rfl, rfl⟩) | (with_reducible refine Calls.mono (H1.out _) ?_; rintro e X ⟨rfl, rfl⟩) | (with_reducible refine Calls.mono (H2.out _) ?_; rintro e X ⟨rfl, rfl⟩) | (with_reducible refine Calls.mono (H3.out _) ?_; rintro e X ⟨rfl, rfl⟩) | (with_reducible refine Calls.mono (H4.out _) ?_; rintro e X ⟨rfl, rfl⟩))
              go_ret
              exact ⟨rfl, rfl⟩
            · have hh2 : 1 ≤ h := by omega
              obtain ⟨q1, q2⟩ := HQ.out hh2
              have hz2 : ¬ h = 0 := by omega
              by_cases hm : d % h = 0
              · by_cases hm2 : d / h % 2 = 0
                · obtain rfl : E = 0 := HC.out true (by rw [HI.out]; simp [hh2, hm, hm2])
                  clear HC HI HQ
                  go_enter Tryd.func26, Tryd.ntmps26
                  go_wp2_with (first | (with_reducible refine Calls.mono (H0.out _) ?_; rintro e X ⟨rfl, rfl⟩) | (with_reducible refine Calls.mono (H1.out _) ?_; rintro e X ⟨rfl, rfl⟩) | (with_reducible refine Calls.mono (H2.out _) ?_; rintro e X ⟨rfl, rfl⟩) | (with_reducible refine Calls.mono (H3.out _) ?_; rintro e X ⟨rfl, rfl⟩) | (with_reducible refine Calls.mono (H4.out _) ?_; rintro e X ⟨rfl, rfl⟩))
                  go_ret
                  exact ⟨rfl, rfl⟩
                · obtain rfl : E = 160 := HC.out false (by rw [HI.out]; simp [hh2, hm, hm2])
                  have hm3 : d / h % 2 = 1 := by omega
                  clear hm2
                  clear HC HI HQ
                  go_enter Tryd.func26, Tryd.ntmps26
                  go_wp2_with (first | (with_reducible refine Calls.mono (H0.out _) ?_; rintro e X ⟨rfl, rfl⟩) | (with_reducible refine Calls.mono (H1.out _) ?_; rintro e X ⟨rfl, rfl⟩) | (with_reducible refine Calls.mono (H2.out _) ?_; rintro e X ⟨rfl, rfl⟩) | (with_reducible refine Calls.mono (H3.out _) ?_; rintro e X ⟨rfl, rfl⟩) | (with_reducible refine Calls.mono (H4.out _) ?_; rintro e X ⟨rfl, rfl⟩))
                  go_ret
                  exact ⟨rfl, rfl⟩
              · obtain rfl : E = 160 := HC.out false (by rw [HI.out]; simp [hh2, hm])
                clear HC HI HQ
                go_enter Tryd.func26, Tryd.ntmps26
                go_wp2_with (first | (with_reducible refine Calls.mono (H0.out _) ?_; rintro e X ⟨rfl, rfl⟩) | (with_reducible refine Calls.mono (H1.out _) ?_; rintro e X ⟨rfl, rfl⟩) | (with_reducible refine Calls.mono (H2.out _) ?_; rintro e X ⟨rfl, rfl⟩) | (with_reducible refine Calls.mono (H3.out _) ?_; rintro e X ⟨rfl, rfl⟩) | (with_reducible refine Calls.mono (H4.out _) ?_; rintro e X ⟨rfl, rfl⟩))
                go_ret
                exact ⟨rfl, rfl⟩
end Go.Proofs.YtakiimjldccgcabDoor

/-
  A region that draws its order, by an invariant: what holds whichever operations have come up.
-/
namespace Go.Proofs.YtakiimjldccgcabDoor

/-- Has an operation come up? -/
def Up (l : Array Bool) (i : Nat) : Prop := l.getD i false = true
theorem up_set_same {l : Array Bool} {i : Nat} (h : i < l.size) : Up (l.setIfInBounds i true) i := by
  unfold Up
  simp [Array.getD_eq_getD_getElem?, h]
theorem up_set_ne {l : Array Bool} {i j : Nat} (h : i ≠ j) : Up (l.setIfInBounds i true) j ↔ Up l j := by
  unfold Up
  rw [getD_set_ne false h]
theorem not_up0 (n i : Nat) : ¬ Up (Array.replicate n false) i := by
  unfold Up
  simp [Array.getD_eq_getD_getElem?, Array.getElem?_replicate]
  split <;> simp
/-- How many have not come up. -/
def left (l : Array Bool) : Nat := l.toList.count false
theorem left_set {l : Array Bool} {i : Nat} (h : l.getD i true = false) : left (l.setIfInBounds i true) + 1 = left l := by
  have hlt : i < l.size := by
    rcases Nat.lt_or_ge i l.size with e | e
    · exact e
    · simp [Array.getD_eq_getD_getElem?, Array.getElem?_eq_none e] at h
  have he : l.toList[i]'(by simpa using hlt) = false := by
    simp [Array.getD_eq_getD_getElem?, Array.getElem?_eq_getElem hlt] at h
    simpa using h
  unfold left
  have hp : 0 < l.toList.count false := List.count_pos_iff.2 (by rw [← he]; exact List.getElem_mem _)
  rw [Array.toList_setIfInBounds, List.count_set (by simpa using hlt), he, if_pos (by rfl), if_neg (by decide)]
  omega
section
variable {P : Program} {md : Region.Mode} {ops : Array Oper} {Q : Exit → Act → World → Prop}
/-- Where nothing may come up, all has. -/
theorem all_up (hb : ∀ (i : Nat) (o : Oper), ops[i]? = some o → ∀ e ∈ o.after, Region.binds md e = true → e.on < i) {l : Array Bool} (hl : l.size = ops.size) (hr : Region.ready md ops l = []) : ∀ n i, i < n → i < ops.size → Up l i := by
  intro n
  induction n with
  | zero => intro i hi; omega
  | succ n ih =>
    intro i hi hs
    cases hf : l.getD i false with
    | true => exact hf
    | false =>
      exfalso
      have ho : ops[i]? = some ops[i] := Array.getElem?_eq_getElem hs
      have hm : i ∈ Region.ready md ops l := by
        rw [mem_ready]
        refine ⟨?_, ops[i], ho, fun e he hbd => ?_⟩
        · have hlt : i < l.size := by omega
          simp [Array.getD_eq_getD_getElem?, Array.getElem?_eq_getElem hlt] at hf ⊢
          exact hf
        · have := hb i _ ho e he hbd
          exact ih e.on (by omega) (by omega)
      rw [hr] at hm
      cases hm
theorem wpAny_inv (I : Array Bool → Act → World → Prop) (hb : ∀ (i : Nat) (o : Oper), ops[i]? = some o → ∀ e ∈ o.after, Region.binds md e = true → e.on < i)
    (hs : ∀ (l : Array Bool) (a : Act) (w : World), l.size = ops.size → I l a w → ∀ (i : Nat) (o : Oper), ops[i]? = some o → i < ops.size → ¬ Up l i → (∀ e ∈ o.after, Region.binds md e = true → Up l e.on) →
      ∀ K : Act → World → Prop, (∀ a' w', I (l.setIfInBounds i true) a' w' → K a' w') → if Region.wanted o (yielded ops a.tmps) = true then Oper.wp P o a w K Q else K (a.put o.dst undef) w)
    (he : ∀ (l : Array Bool) (a : Act) (w : World), I l a w → (∀ i, i < ops.size → Up l i) → Q .normal a w) :
    ∀ (fuel : Nat) (l : Array Bool) (a : Act) (w : World), l.size = ops.size → left l ≤ fuel → I l a w → wpAny P md ops Q fuel l a w := by
  have hend : ∀ (l : Array Bool) (a : Act) (w : World), l.size = ops.size → I l a w → Region.ready md ops l = [] → Q .normal a w := fun l a w hl hI hr => he l a w hI (fun i hi => all_up hb hl hr (i + 1) i (by omega) hi)
  intro fuel
  induction fuel with
  | zero =>
    intro l a w hl hc hI
    have hr : Region.ready md ops l = [] := by
      rw [List.eq_nil_iff_forall_not_mem]
      intro j hj
      have := left_set (mem_ready.1 hj).1
      omega
    exact ⟨hr, hend l a w hl hI hr⟩
  | succ fuel ih =>
    intro l a w hl hc hI
    refine ⟨hend l a w hl hI, fun i hi => ?_⟩
    obtain ⟨h1, o, ho, h2⟩ := mem_ready.1 hi
    have hlt : i < ops.size := (Array.getElem?_eq_some_iff.1 ho).1
    have hn : ¬ Up l i := by
      intro e
      have hlt' : i < l.size := by omega
      unfold Up at e
      simp [Array.getD_eq_getD_getElem?, Array.getElem?_eq_getElem hlt'] at h1 e
      rw [h1] at e
      cases e
    refine wpOp_step ho (fun K hK => hs l a w hl hI i o ho hlt hn (fun e he hbd => h2 e he hbd) K (fun a' w' hI' => hK a' w' (ih _ a' w' (by simpa using hl) ?_ hI')))
    have := left_set h1
    omega
theorem left_none (n : Nat) : left (Array.replicate n false) = n := by simp [left]
/-- Each waits for earlier ones alone. -/
def backB (ops : Array Oper) : Bool := (List.range ops.size).all fun i => ((ops[i]?).map fun o => o.after.all fun e => !Region.binds .any e || decide (e.on < i)).getD true
theorem back_of (h : backB ops = true) : ∀ (i : Nat) (o : Oper), ops[i]? = some o → ∀ e ∈ o.after, Region.binds .any e = true → e.on < i := by
  intro i o ho e he hbd
  have hlt : i < ops.size := (Array.getElem?_eq_some_iff.1 ho).1
  have h1 := List.all_eq_true.1 h i (List.mem_range.2 hlt)
  rw [ho] at h1
  simp only [Option.map_some, Option.getD_some, Array.all_eq_true_iff_forall_mem, Bool.or_eq_true, Bool.not_eq_true', decide_eq_true_eq] at h1
  exact (h1 e he).resolve_left (by rw [hbd]; decide)
/-- The whole region. -/
theorem region_inv {id : Nat} {a : Act} {w : World} (hm : P.follows .mixedOrders = true) (I : Array Bool → Act → World → Prop) (hb : backB ops = true)
    (hs : ∀ (l : Array Bool) (a : Act) (w : World), l.size = ops.size → I l a w → ∀ (i : Nat) (o : Oper), ops[i]? = some o → i < ops.size → ¬ Up l i → (∀ e ∈ o.after, Region.binds .any e = true → Up l e.on) →
      ∀ K : Act → World → Prop, (∀ a' w', I (l.setIfInBounds i true) a' w' → K a' w') → if Region.wanted o (yielded ops a.tmps) = true then Oper.wp P o a w K Q else K (a.put o.dst undef) w)
    (h0 : I (Array.replicate ops.size false) a w.drew)
    (he : ∀ (l : Array Bool) (a : Act) (w : World), I l a w → (∀ i, i < ops.size → Up l i) → Q .normal a w) : (Code.region id ops true).wp P Q a w :=
  wp_region_any hm (wpAny_inv I (back_of hb) hs he ops.size _ a _ (by simp) (by rw [left_none]; exact Nat.le_refl _) h0)
end
end Go.Proofs.YtakiimjldccgcabDoor

/-
  A drawn region whose first operations read, or call what makes nothing but new memory, and whose last ones (stores, as a rule) each wait for all ahead of them: one walk in the order of the text.
-/
namespace Go.Proofs.YtakiimjldccgcabDoor
open Go.RowKit

/-- The last operations, one after another. -/
def wpTail (P : Program) (ops : Array Oper) (Q : Exit → Act → World → Prop) : List Oper → Act → World → Prop
  | [], a, w => Q .normal a w
  | o :: r, a, w => if Region.wanted o (yielded ops a.tmps) = true then o.wp P a w (wpTail P ops Q r) Q else wpTail P ops Q r (a.put o.dst undef) w
/-- Each waits for earlier ones alone; those from place k on wait for all ahead; no guard of the others lies from place k on. -/
def tailB (l : List Oper) (k : Nat) : Bool := (List.range l.length).all fun i => ((l[i]?).map fun o =>
  o.after.all (fun e => !Region.binds .any e || decide (e.on < i)) && (if i < k then (o.guard.map (fun g => decide (g.1 < k))).getD true else (List.range i).all (fun j => o.after.any (fun e => Region.binds .any e && e.on == j)))).getD true
theorem tail_back {l : List Oper} {k : Nat} (h : tailB l k = true) : ∀ (i : Nat) (o : Oper), l[i]? = some o → ∀ e ∈ o.after, Region.binds .any e = true → e.on < i := by
  intro i o ho e he hb
  have hlt : i < l.length := (List.getElem?_eq_some_iff.1 ho).1
  have h1 := List.all_eq_true.1 h i (List.mem_range.2 hlt)
  rw [ho] at h1
  simp only [Option.map_some, Option.getD_some, Bool.and_eq_true] at h1
  have h2 := Array.all_eq_true_iff_forall_mem.1 h1.1 e he
  rw [hb] at h2
  simpa using h2
theorem tail_guard {l : List Oper} {k : Nat} (h : tailB l k = true) (i : Nat) (o : Oper) (ho : l[i]? = some o) (hi : i < k) (g : Nat × Bool) (hg : o.guard = some g) : g.1 < k := by
  have hlt : i < l.length := (List.getElem?_eq_some_iff.1 ho).1
  have h1 := List.all_eq_true.1 h i (List.mem_range.2 hlt)
  rw [ho] at h1
  simp only [Option.map_some, Option.getD_some, Bool.and_eq_true, if_pos hi, hg] at h1
  simpa using h1.2
theorem tail_waits {l : List Oper} {k : Nat} (h : tailB l k = true) (i : Nat) (o : Oper) (ho : l[i]? = some o) (hi : k ≤ i) (j : Nat) (hj : j < i) : ∃ e ∈ o.after, Region.binds .any e = true ∧ e.on = j := by
  have hlt : i < l.length := (List.getElem?_eq_some_iff.1 ho).1
  have h1 := List.all_eq_true.1 h i (List.mem_range.2 hlt)
  rw [ho] at h1
  simp only [Option.map_some, Option.getD_some, Bool.and_eq_true, if_neg (Nat.not_lt.2 hi)] at h1
  have h2 := List.all_eq_true.1 h1.2 j (List.mem_range.2 hj)
  rw [← Array.any_toList] at h2
  obtain ⟨e, he, hb⟩ := List.any_eq_true.1 h2
  simp only [Bool.and_eq_true, beq_iff_eq] at hb
  exact ⟨e, Array.mem_toList_iff.1 he, hb.1, hb.2⟩
section
variable {P : Program} {l : List Oper} {k : Nat} {Q : Exit → Act → World → Prop} {C : World → Prop}
/-- The last ones alone are left. -/
theorem wpAny_tail (hT : tailB l k = true) : ∀ (t : List Oper) (j : Nat) (L : Array Bool) (f : Nat) (a : Act) (w : World), t = l.drop j → k ≤ j → L.size = l.length → (∀ i, i < j → i < l.length → L[i]? = some true) → (∀ i, j ≤ i → i < l.length → L[i]? = some false) → t.length ≤ f → wpTail P l.toArray Q t a w → wpAny P .any l.toArray Q f L a w := by
  intro t
  induction t with
  | nil =>
    intro j L f a w ht hkj hL hup hdn hf h
    have hj : l.length ≤ j := by
      have := congrArg List.length ht
      simp only [List.length_nil, List.length_drop] at this
      omega
    refine wpAny_done ?_ h f
    rw [List.eq_nil_iff_forall_not_mem]
    intro i hi
    obtain ⟨h1, o, ho, _⟩ := mem_ready.1 hi
    have hlt : i < l.length := by simpa using (Array.getElem?_eq_some_iff.1 ho).1
    rw [Array.getD_eq_getD_getElem?, hup i (by omega) hlt] at h1
    cases h1
  | cons o r ih =>
    intro j L f a w ht hkj hL hup hdn hf h
    have hj : j < l.length := by
      rcases Nat.lt_or_ge j l.length with e | e
      · exact e
      · rw [List.drop_eq_nil_of_le e] at ht
        cases ht
    rw [List.drop_eq_getElem_cons hj] at ht
    injection ht with ho hr
    have hoj : l[j]? = some o := by rw [List.getElem?_eq_getElem hj, ho]
    have hoj' : l.toArray[j]? = some o := by simpa using hoj
    obtain ⟨f, rfl⟩ : ∃ f', f = f' + 1 := ⟨f - 1, by simp only [List.length_cons] at hf; omega⟩
    have hjr : j ∈ Region.ready .any l.toArray L := by
      rw [mem_ready]
      refine ⟨by rw [Array.getD_eq_getD_getElem?, hdn j (Nat.le_refl _) hj]; rfl, o, hoj', fun e he hb => ?_⟩
      have he2 := tail_back hT j o hoj e he hb
      rw [Array.getD_eq_getD_getElem?, hup e.on he2 (by omega)]
      rfl
    refine ⟨fun e => (by rw [e] at hjr; cases hjr), fun i hi => ?_⟩
    have hij : i = j := by
      obtain ⟨h1, oi, hoi, h2⟩ := mem_ready.1 hi
      have hlt : i < l.length := by simpa using (Array.getElem?_eq_some_iff.1 hoi).1
      rcases Nat.lt_trichotomy i j with e | e | e
      · rw [Array.getD_eq_getD_getElem?, hup i e hlt] at h1
        cases h1
      · exact e
      · obtain ⟨e', he', hb, hon⟩ := tail_waits hT i oi (by simpa using hoi) (by omega) j e
        have h3 := h2 e' he' hb
        rw [hon, Array.getD_eq_getD_getElem?, hdn j (Nat.le_refl _) hj] at h3
        cases h3
    subst hij
    have hrec : ∀ a' w', wpTail P l.toArray Q r a' w' → wpAny P .any l.toArray Q f (L.setIfInBounds i true) a' w' := fun a' w' h' => by
      refine ih (i + 1) _ f a' w' hr (by omega) (by simpa using hL) (fun m hm hm2 => ?_) (fun m hm hm2 => ?_) (by simp only [List.length_cons] at hf; omega) h'
      · rw [Array.getElem?_setIfInBounds]
        by_cases e : i = m
        · rw [if_pos e, if_pos (by omega)]
        · rw [if_neg e]
          exact hup m (by omega) hm2
      · rw [Array.getElem?_setIfInBounds, if_neg (by omega)]
        exact hdn m (by omega) hm2
    refine wpOp_step hoj' (fun K' hK => ?_)
    unfold wpTail at h
    split at h
    · rename_i hw
      rw [if_pos hw]
      exact Oper.wp_mono (fun a' w' h' => hK a' w' (hrec a' w' h')) h
    · rename_i hw
      rw [if_neg hw]
      exact hK _ _ (hrec _ _ h)
theorem take_at {i : Nat} (h : i < k) : (l.take k).toArray[i]? = l.toArray[i]? := by
  simp [h]
theorem wanted_take (hT : tailB l k = true) {i : Nat} {o : Oper} (ho : l[i]? = some o) (hi : i < k) (tmps : Array Value) : Region.wanted o (yielded (l.take k).toArray tmps) = Region.wanted o (yielded l.toArray tmps) := by
  unfold Region.wanted
  cases hg : o.guard with
  | none => rfl
  | some g =>
    obtain ⟨j, b⟩ := g
    have hj := tail_guard hT i o ho hi (j, b) hg
    have : yielded (l.take k).toArray tmps j = yielded l.toArray tmps j := by
      unfold yielded
      rw [take_at hj]
    simp only [this]
theorem wpOp_of_take (hT : tailB l k = true) {i : Nat} (hi : i < k) (hl : i < l.length) {a : Act} {K : Act → Prop} {K' : Act → World → Prop} {w : World} (hC : C w) (h : ∀ a w', C w' → K a → K' a w') (hh : qOp P (l.take k).toArray C i K a) : wpOp P l.toArray Q i K' a w := by
  have ho : l[i]? = some l[i] := List.getElem?_eq_getElem hl
  have ho' : l.toArray[i]? = some l[i] := by simp
  have ho2 : (l.take k).toArray[i]? = some l[i] := by rw [take_at hi, ho']
  unfold qOp at hh
  rw [ho2] at hh
  simp only [wanted_take hT ho hi] at hh
  refine wpOp_step ho' (fun K2 hK => ?_)
  split
  · rename_i hw
    rw [if_pos hw] at hh
    exact Oper.wp_of_quiet hC (fun a' w' hc hk => hK _ _ (h a' w' hc hk)) hh
  · rename_i hw
    rw [if_neg hw] at hh
    exact hK _ _ (h _ _ hC hh)
theorem wpAny_take (hT : tailB l k = true) (hk : k ≤ l.length) {Qp : Act → Prop} (hQ : ∀ a w, C w → Qp a → wpTail P l.toArray Q (l.drop k) a w) : ∀ (fuel : Nat) (L1 L : Array Bool) (a : Act) (w : World), L1.size = k → L.size = l.length → (∀ i, i < k → L[i]? = L1[i]?) → (∀ i, k ≤ i → i < l.length → L[i]? = some false) → C w →
    wpAnyQ P .any (l.take k).toArray C Qp fuel L1 a → wpAny P .any l.toArray Q (fuel + (l.length - k)) L a w := by
  have hts : (l.take k).toArray.size = k := by simp [Nat.min_eq_left hk]
  have hback : ∀ (i : Nat) (o : Oper), (l.take k).toArray[i]? = some o → ∀ e ∈ o.after, Region.binds .any e = true → e.on < i := fun i o ho => by
    have hi : i < k := by
      have := (Array.getElem?_eq_some_iff.1 ho).1
      omega
    rw [take_at hi] at ho
    exact tail_back hT i o (by simpa using ho)
  -- where nothing of the beginning may come up, the rest comes up in its order
  have hend : ∀ (f : Nat) (L1 L : Array Bool) (a : Act) (w : World), L1.size = k → L.size = l.length → (∀ i, i < k → L[i]? = L1[i]?) → (∀ i, k ≤ i → i < l.length → L[i]? = some false) → C w → Region.ready .any (l.take k).toArray L1 = [] → Qp a → l.length - k ≤ f → wpAny P .any l.toArray Q f L a w := by
    intro f L1 L a w h1 h2 h3 h4 hC hr hq hf
    refine wpAny_tail hT (l.drop k) k L f a w rfl (Nat.le_refl _) h2 (fun i hi hil => ?_) h4 (by simpa using hf) (hQ a w hC hq)
    have hu := all_up hback (by rw [hts]; exact h1) hr (i + 1) i (by omega) (by omega)
    unfold Up at hu
    have hlt : i < L1.size := by omega
    rw [h3 i hi, Array.getElem?_eq_getElem hlt]
    rw [Array.getD_eq_getD_getElem?, Array.getElem?_eq_getElem hlt] at hu
    exact congrArg some hu
  intro fuel
  induction fuel with
  | zero =>
    intro L1 L a w h1 h2 h3 h4 hC h
    exact hend _ L1 L a w h1 h2 h3 h4 hC h.1 h.2 (by omega)
  | succ fuel ih =>
    intro L1 L a w h1 h2 h3 h4 hC h
    by_cases hr : Region.ready .any (l.take k).toArray L1 = []
    · exact hend _ L1 L a w h1 h2 h3 h4 hC hr (h.1 hr) (by omega)
    · have hsub : ∀ i, i ∈ Region.ready .any l.toArray L ↔ i < k ∧ i ∈ Region.ready .any (l.take k).toArray L1 := fun i => by
        constructor
        · intro hi
          obtain ⟨g1, o, ho, g2⟩ := mem_ready.1 hi
          rcases Nat.lt_or_ge i k with e | e
          · refine ⟨e, mem_ready.2 ⟨by rw [Array.getD_eq_getD_getElem?, ← h3 i e, ← Array.getD_eq_getD_getElem?]; exact g1, o, by rw [take_at e]; exact ho, fun e' he hb => ?_⟩⟩
            have := tail_back hT i o (by simpa using ho) e' he hb
            rw [Array.getD_eq_getD_getElem?, ← h3 e'.on (by omega), ← Array.getD_eq_getD_getElem?]
            exact g2 e' he hb
          · exfalso
            refine hr ?_
            rw [List.eq_nil_iff_forall_not_mem]
            intro j hj
            obtain ⟨k1, oj, hoj, _⟩ := mem_ready.1 hj
            have hjk : j < k := by
              have := (Array.getElem?_eq_some_iff.1 hoj).1
              omega
            obtain ⟨e', he', hb, hon⟩ := tail_waits hT i o (by simpa using ho) e j (by omega)
            have h5 := g2 e' he' hb
            rw [hon, Array.getD_eq_getD_getElem?, h3 j hjk] at h5
            have hlt : j < L1.size := by omega
            rw [Array.getElem?_eq_getElem hlt] at h5
            rw [Array.getD_eq_getD_getElem?, Array.getElem?_eq_getElem hlt] at k1
            simp only [Option.getD_some] at h5 k1
            rw [h5] at k1
            cases k1
        · rintro ⟨e, hi⟩
          obtain ⟨g1, o, ho, g2⟩ := mem_ready.1 hi
          rw [take_at e] at ho
          refine mem_ready.2 ⟨by rw [Array.getD_eq_getD_getElem?, h3 i e, ← Array.getD_eq_getD_getElem?]; exact g1, o, ho, fun e' he hb => ?_⟩
          have := tail_back hT i o (by simpa using ho) e' he hb
          rw [Array.getD_eq_getD_getElem?, h3 e'.on (by omega), ← Array.getD_eq_getD_getElem?]
          exact g2 e' he hb
      rw [show fuel + 1 + (l.length - k) = (fuel + (l.length - k)) + 1 by omega]
      refine ⟨fun e => ?_, fun i hi => ?_⟩
      · exfalso
        refine hr ?_
        rw [List.eq_nil_iff_forall_not_mem]
        intro j hj
        obtain ⟨_, oj, hoj, _⟩ := mem_ready.1 hj
        have hjk : j < k := by
          have := (Array.getElem?_eq_some_iff.1 hoj).1
          omega
        have := (hsub j).2 ⟨hjk, hj⟩
        rw [e] at this
        cases this
      · obtain ⟨hik, hi1⟩ := (hsub i).1 hi
        refine wpOp_of_take hT hik (by omega) hC (fun a' w' hc hk' => ?_) (h.2 i hi1)
        refine ih (L1.setIfInBounds i true) (L.setIfInBounds i true) a' w' (by simpa using h1) (by simpa using h2) (fun j hj => ?_) (fun j hj hjl => ?_) hc hk'
        · rw [Array.getElem?_setIfInBounds, Array.getElem?_setIfInBounds, h3 j hj, h1, h2]
          by_cases e : i = j
          · rw [if_pos e, if_pos e, if_pos (by omega), if_pos (by omega)]
          · rw [if_neg e, if_neg e]
        · rw [Array.getElem?_setIfInBounds, if_neg (by omega)]
          exact h4 j hj hjl
/-- The whole region, over new memory. -/
theorem wp_region_tail {id : Nat} {a : Act} {W : World} (k : Nat) (hm : P.follows .mixedOrders = true) (hk : k ≤ l.length) (hT : tailB l k = true) (hB : Region.lexB .any (l.take k).toArray = true)
    (h : wpQuiet P (l.take k).toArray (fun w' => ∃ d : Nw W, w' = d.w) (fun a' => ∀ w', (∃ d : Nw W, w' = d.w) → wpTail P l.toArray Q (l.drop k) a' w') (l.take k) a) : (Code.region id l.toArray true).wp P Q a W := by
  refine wp_region_any hm ?_
  have hts : (l.take k).length = k := by simp [Nat.min_eq_left hk]
  simp only [Region.lexB, Bool.and_eq_true] at hB
  have h1 := wpAnyQ_lex (C := fun w' => ∃ d : Nw W, w' = d.w) (md := .any) hB.1 (l.take k) 0 (Array.replicate (l.take k).toArray.size false) a (by simp) (by simpa using hB.2) h
  have h2 := wpAny_take (Q := Q) hT hk (fun a' w' hw' h' => h' w' hw') (l.take k).length (Array.replicate (l.take k).toArray.size false) (Array.replicate l.toArray.size false) a W.drew (by simp [Nat.min_eq_left hk]) (by simp) (fun i hi => by
    rw [Array.getElem?_replicate, Array.getElem?_replicate, if_pos (by simp; omega), if_pos (by simp; omega)]) (fun i hi hil => by simp [hil]) ⟨⟨_, (Kept.refl (fun _ => False) W).drew⟩, rfl⟩ h1
  rw [hts] at h2
  have e : k + (l.length - k) = l.toArray.size := by simp; omega
  rw [e] at h2
  exact h2
end
end Go.Proofs.YtakiimjldccgcabDoor
