/-
  Whether two lists are the same.
-/
import Derived.Test.YtjjpkidmlpmgaaaVou
namespace Go.Proofs.Ytjjpkidmlpmgaaa
open Go.RowKit Go.Lib Go.Maps

set_option maxHeartbeats 1000000 in
set_option maxRecDepth 100000 in
theorem ints_any {p q : Nat → Prop} (av bv : Value) (xs ys : List Int) (w : World) (ha : Rk .i64 p w av xs) (hb : Rk .i64 q w bv ys) :
    Calls Try.prog 16 #[av, bv] w fun e w' => e = .returned (.bool (decide (xs = ys))) ∧ Fresh w w' := by
  obtain ⟨ao, ac, rfl, _, _⟩ := ha.shape
  obtain ⟨bo, bc, rfl, _, _⟩ := hb.shape
  have hal := ha.many
  have HA := show Hid _ from ha.cells.2.2.2
  have HB := show Hid _ from hb.cells.2.2.2
  clear ha hb
  by_cases hl : xs.length = ys.length
  · have HE : Hid (∀ k, k < xs.length → gI xs k ≠ gI ys k → decide (xs = ys) = false) := fun k _ h => decide_eq_false (fun e => h (by rw [e]))
    have HT : Hid ((∀ k, k < xs.length → gI xs k = gI ys k) → decide (xs = ys) = true) := fun h => decide_eq_true (by
      apply List.ext_getElem hl
      intro i h1 h2
      have := h i h1
      rw [gI, gI, getD_getElem h1, getD_getElem h2] at this
      exact this)
    generalize decide (xs = ys) = R at *
    rw [← hl] at HB ⊢
    generalize xs.length = n at *
    go_enter Try.func16, Try.ntmps16
    go_wp2
    go_loopw [5] (fun iv wr => ∃ k d : Nat, k ≤ n ∧ iv = zV k ∧ wr = w.drewN d ∧ Hid (∀ q, q < k → gI xs q = gI ys q)) (fun iv _ => n - (RowKit.intOf iv).toNat)
    case atStart => exact ⟨0, 0, Nat.zero_le _, rfl, rfl, fun q hq => absurd hq (Nat.not_lt_zero _)⟩
    case round =>
      obtain ⟨k, d, hk, rfl, rfl, HQ⟩ := hrel
      by_cases hlt : k < n
      · have hlt' : (k : Int) < (n : Int) := by omega
        obtain ⟨b1, o1, rfl, _, _, c1⟩ := HA.out (by omega)
        obtain ⟨b2, o2, rfl, _, _, c2⟩ := HB.out (by omega)
        have t1 : w.cell? ⟨b1, o1 + k, none⟩ = some (.int .i64 (gI xs k)) := c1 k hlt
        have t2 : w.cell? ⟨b2, o2 + k, none⟩ = some (.int .i64 (gI ys k)) := c2 k hlt
        clear c1 c2
        by_cases he : gI xs k = gI ys k
        · have HQ2 : Hid (∀ q, q < k + 1 → gI xs q = gI ys q) := fun q hq => by
            by_cases e : q = k
            · rw [e]; exact he
            · exact HQ.out q (by omega)
          have d1 : (gI xs k == gI ys k) = true := by simpa using he
          clear HE HT HQ
          rw [← he] at t2
          clear he d1
          generalize gI xs k = y1 at *
          go_wp2_with fail
          go_quiet (fail)
          go_wp2
          go_roundw
          case rel => exact ⟨k + 1, _, hlt, by go_num, rfl, HQ2.out⟩
          case measure => simp [RowKit.intOf]; omega
        · have hR := HE.out k hlt he
          have d1 : (gI xs k == gI ys k) = false := by simpa using he
          clear HE HT HQ
          subst hR
          generalize gI xs k = y1 at *
          generalize gI ys k = y2 at *
          go_wp2_with fail
          go_quiet (fail)
          go_wp2
          go_ret
          exact ⟨rfl, ((Kept.refl _ w).drewN _).drewN _⟩
      · obtain rfl : k = n := by omega
        have hR := HT.out HQ.out
        clear HE HT HQ
        subst hR
        go_wp2
        go_ret
        exact ⟨rfl, (Kept.refl _ w).drewN _⟩
  · have hR : decide (xs = ys) = false := decide_eq_false (fun e => hl (by rw [e]))
    rw [hR]
    have hl' : ((xs.length : Int) == (ys.length : Int)) = false := by
      have : ¬ (xs.length : Int) = (ys.length : Int) := by omega
      simpa using this
    clear hR
    generalize xs.length = n at *
    generalize ys.length = m at *
    go_enter Try.func16, Try.ntmps16
    go_wp2
    go_ret
    exact ⟨rfl, Kept.refl _ w⟩
end Go.Proofs.Ytjjpkidmlpmgaaa
