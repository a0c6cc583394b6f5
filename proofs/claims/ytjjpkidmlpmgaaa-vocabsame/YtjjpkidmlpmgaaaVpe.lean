/-
  slices.Equal of texts and of merges; Same.
-/
import Derived.Test.YtjjpkidmlpmgaaaVpd
namespace Go.Proofs.Ytjjpkidmlpmgaaa
open Go.RowKit Go.Lib Go.Maps

set_option maxHeartbeats 2000000 in
set_option maxRecDepth 100000 in
theorem equalT_any {p q : Nat → Prop} (W : World) (xv yv : Value) (X Y : List (List UInt8)) (hX : TxR p W xv X) (hY : TxR q W yv Y) :
    Calls Try.prog 29 #[xv, yv] W fun e w' => e = .returned (.bool (decide (X = Y))) ∧ Fresh W w' := by
  have h16 := hX.len16
  obtain ⟨xa, xc, rfl⟩ := hX.shape
  obtain ⟨ya, yc, rfl⟩ := hY.shape
  have H1 : Hid (0 < X.length → ∃ b o, xa = some ⟨b, o, none⟩ ∧ ∀ i, i < X.length → W.cell? ⟨b, o + i, none⟩ = some (.string (ByteArray.mk (gT X i).toArray))) := fun h => by
    obtain ⟨b, o, e, _, _, hc⟩ := (TxR.cells hX).2.2 h
    exact ⟨b, o, e, hc⟩
  have H2 : Hid (0 < Y.length → ∃ b o, ya = some ⟨b, o, none⟩ ∧ ∀ i, i < Y.length → W.cell? ⟨b, o + i, none⟩ = some (.string (ByteArray.mk (gT Y i).toArray))) := fun h => by
    obtain ⟨b, o, e, _, _, hc⟩ := (TxR.cells hY).2.2 h
    exact ⟨b, o, e, hc⟩
  clear hX hY
  have HE : Hid (X.length = Y.length → (∀ i, i < X.length → gT X i = gT Y i) → X = Y) := fun h1 h2 => ext_T h1 h2
  have HN : Hid (∀ i, ¬ gT X i = gT Y i → ¬ X = Y) := fun i h e => h (by rw [e])
  by_cases hlen : Y.length = X.length
  · rw [hlen] at H2
    rw [hlen]
    have HE2 : Hid ((∀ i, i < X.length → gT X i = gT Y i) → X = Y) := HE.out hlen.symm
    clear HE hlen
    generalize hXl : X.length = xl at *
    go_enter Try.func29, Try.ntmps29
    go_wp2
    go_loopw [13] (fun iv wr => ∃ k d : Nat, k ≤ xl ∧ iv = zV k ∧ wr = W.drewN d ∧ Hid (∀ i, i < k → gT X i = gT Y i)) (fun iv _ => xl - (RowKit.intOf iv).toNat)
    case atStart => exact ⟨0, 0, Nat.zero_le _, rfl, rfl, fun i h => absurd h (by omega)⟩
    case round =>
      obtain ⟨k, d, hk, rfl, rfl, hall⟩ := hrel
      by_cases hlt : k < xl
      · have hlt' : (k : Int) < (xl : Int) := by omega
        obtain ⟨b1, o1, rfl, c1⟩ := H1.out (by omega)
        obtain ⟨b2, o2, rfl, c2⟩ := H2.out (by omega)
        have t1 := c1 k hlt
        have t2 := c2 k (by omega)
        clear c1 c2
        by_cases he : gT X k = gT Y k
        · have hall2 : Hid (∀ i, i < k + 1 → gT X i = gT Y i) := fun i hi => by
            rcases Nat.lt_or_ge i k with h | h
            · exact hall.out i h
            · obtain rfl : i = k := by omega
              exact he
          rw [← he] at t2
          generalize ByteArray.mk (gT X k).toArray = ss at *
          go_wp2_with fail
          go_quiet (fail)
          go_wp2
          go_roundw
          case rel => exact ⟨k + 1, _, hlt, by go_num, rfl, hall2⟩
          case measure => simp [RowKit.intOf]; omega
        · have hXY : Hid (decide (X = Y) = false) := decide_eq_false (HN.out k he)
          have hn2 : ((ByteArray.mk (gT X k).toArray).toList == (ByteArray.mk (gT Y k).toArray).toList) = false := by
            rw [ByteArray.toList_eq, ByteArray.toList_eq]
            exact beq_false_of_ne he
          generalize ByteArray.mk (gT X k).toArray = ss at *
          generalize ByteArray.mk (gT Y k).toArray = st at *
          go_wp2_with fail
          go_quiet (fail)
          go_wp2
          go_ret
          exact ⟨by rw [hXY.out]; rfl, ((Kept.refl _ W).drewN _).drewN _⟩
      · obtain rfl : k = xl := by omega
        have hXY : Hid (decide (X = Y) = true) := decide_eq_true (HE2.out hall.out)
        go_wp2
        go_ret
        exact ⟨by rw [hXY.out]; rfl, (Kept.refl _ W).drewN _⟩
  · have hXY : decide (X = Y) = false := decide_eq_false (fun e => hlen (by rw [e]))
    rw [hXY]
    have hne : ¬ X.length = Y.length := fun e => hlen e.symm
    clear H1 H2 HE HN hlen
    generalize X.length = xl at *
    generalize Y.length = yl at *
    have hnb : (xl == yl) = false := by simpa using hne
    have hni : ¬ (xl : Int) = (yl : Int) := by omega
    go_enter Try.func29, Try.ntmps29
    go_wp2
    go_ret
    exact ⟨rfl, Kept.refl _ W⟩
set_option maxHeartbeats 2000000 in
set_option maxRecDepth 100000 in
theorem equalM_any {p q : Nat → Prop} (W : World) (xv yv : Value) (X Y : List Mg) (hX : MgR p W xv X) (hY : MgR q W yv Y) (h24 : X.length * 24 ≤ 140737488351232) :
    Calls Try.prog 30 #[xv, yv] W fun e w' => e = .returned (.bool (decide (X = Y))) ∧ Fresh W w' := by
  obtain ⟨xa, xc, rfl⟩ := hX.shape
  obtain ⟨ya, yc, rfl⟩ := hY.shape
  have H1 : Hid (0 < X.length → ∃ b o, xa = some ⟨b, o, none⟩ ∧ ∀ i, i < X.length → W.cell? ⟨b, o + i * 3, none⟩ = some (zV (gM X i).l) ∧ W.cell? ⟨b, o + i * 3 + 1, none⟩ = some (zV (gM X i).r) ∧ W.cell? ⟨b, o + i * 3 + 2, none⟩ = some (zV (gM X i).o)) := fun h => by
    obtain ⟨ao, cap, e, _, _, _, hc⟩ := hX
    injection e with e1 _ _
    subst e1
    obtain ⟨b, o, e, _, _, hc⟩ := hc h
    exact ⟨b, o, e, hc⟩
  have H2 : Hid (0 < Y.length → ∃ b o, ya = some ⟨b, o, none⟩ ∧ ∀ i, i < Y.length → W.cell? ⟨b, o + i * 3, none⟩ = some (zV (gM Y i).l) ∧ W.cell? ⟨b, o + i * 3 + 1, none⟩ = some (zV (gM Y i).r) ∧ W.cell? ⟨b, o + i * 3 + 2, none⟩ = some (zV (gM Y i).o)) := fun h => by
    obtain ⟨ao, cap, e, _, _, _, hc⟩ := hY
    injection e with e1 _ _
    subst e1
    obtain ⟨b, o, e, _, _, hc⟩ := hc h
    exact ⟨b, o, e, hc⟩
  clear hX hY
  have HE : Hid (X.length = Y.length → (∀ i, i < X.length → gM X i = gM Y i) → X = Y) := fun h1 h2 => ext_M h1 h2
  have HN : Hid (∀ i, ¬ gM X i = gM Y i → ¬ X = Y) := fun i h e => h (by rw [e])
  by_cases hlen : Y.length = X.length
  · rw [hlen] at H2
    rw [hlen]
    have HE2 : Hid ((∀ i, i < X.length → gM X i = gM Y i) → X = Y) := HE.out hlen.symm
    clear HE hlen
    generalize hXl : X.length = xl at *
    go_enter Try.func30, Try.ntmps30
    go_wp2
    go_loopw [13] (fun iv wr => ∃ k d : Nat, k ≤ xl ∧ iv = zV k ∧ wr = W.drewN d ∧ Hid (∀ i, i < k → gM X i = gM Y i)) (fun iv _ => xl - (RowKit.intOf iv).toNat)
    case atStart => exact ⟨0, 0, Nat.zero_le _, rfl, rfl, fun i h => absurd h (by omega)⟩
    case round =>
      obtain ⟨k, d, hk, rfl, rfl, hall⟩ := hrel
      by_cases hlt : k < xl
      · have hlt' : (k : Int) < (xl : Int) := by omega
        obtain ⟨b1, o1, rfl, c1⟩ := H1.out (by omega)
        obtain ⟨b2, o2, rfl, c2⟩ := H2.out (by omega)
        obtain ⟨t1, t2, t3⟩ := c1 k hlt
        obtain ⟨s1, s2, s3⟩ := c2 k (by omega)
        clear c1 c2
        by_cases he : gM X k = gM Y k
        · have hall2 : Hid (∀ i, i < k + 1 → gM X i = gM Y i) := fun i hi => by
            rcases Nat.lt_or_ge i k with h | h
            · exact hall.out i h
            · obtain rfl : i = k := by omega
              exact he
          rw [← he] at s1 s2 s3
          generalize (gM X k).l = y1 at *
          generalize (gM X k).r = y2 at *
          generalize (gM X k).o = y3 at *
          go_wp2_with fail
          go_quiet (fail)
          go_wp2
          go_roundw
          case rel => exact ⟨k + 1, _, hlt, by go_num, rfl, hall2⟩
          case measure => simp [RowKit.intOf]; omega
        · have hXY : Hid (decide (X = Y) = false) := decide_eq_false (HN.out k he)
          have hne : ¬ ((gM X k).l = (gM Y k).l ∧ (gM X k).r = (gM Y k).r ∧ (gM X k).o = (gM Y k).o) := fun ⟨e1, e2, e3⟩ => he (by cases h1 : gM X k; cases h2 : gM Y k; simp_all)
          generalize (gM X k).l = y1 at *
          generalize (gM X k).r = y2 at *
          generalize (gM X k).o = y3 at *
          generalize (gM Y k).l = z1 at *
          generalize (gM Y k).r = z2 at *
          generalize (gM Y k).o = z3 at *
          by_cases e1 : y1 = z1
          · subst e1
            by_cases e2 : y2 = z2
            · subst e2
              have e3 : ¬ y3 = z3 := fun e => hne ⟨rfl, rfl, e⟩
              have d3 : (y3 == z3) = false := by simpa using e3
              clear hne
              go_wp2_with fail
              go_quiet (fail)
              go_wp2
              go_ret
              exact ⟨by rw [hXY.out]; rfl, ((Kept.refl _ W).drewN _).drewN _⟩
            · have d2 : (y2 == z2) = false := by simpa using e2
              clear hne
              go_wp2_with fail
              go_quiet (fail)
              go_wp2
              go_ret
              exact ⟨by rw [hXY.out]; rfl, ((Kept.refl _ W).drewN _).drewN _⟩
          · have d1 : (y1 == z1) = false := by simpa using e1
            clear hne
            go_wp2_with fail
            go_quiet (fail)
            go_wp2
            go_ret
            exact ⟨by rw [hXY.out]; rfl, ((Kept.refl _ W).drewN _).drewN _⟩
      · obtain rfl : k = xl := by omega
        have hXY : Hid (decide (X = Y) = true) := decide_eq_true (HE2.out hall.out)
        go_wp2
        go_ret
        exact ⟨by rw [hXY.out]; rfl, (Kept.refl _ W).drewN _⟩
  · have hXY : decide (X = Y) = false := decide_eq_false (fun e => hlen (by rw [e]))
    rw [hXY]
    have hne : ¬ X.length = Y.length := fun e => hlen e.symm
    clear H1 H2 HE HN hlen
    generalize X.length = xl at *
    generalize Y.length = yl at *
    have hnb : (xl == yl) = false := by simpa using hne
    have hni : ¬ (xl : Int) = (yl : Int) := by omega
    go_enter Try.func30, Try.ntmps30
    go_wp2
    go_ret
    exact ⟨rfl, Kept.refl _ W⟩
end Go.Proofs.Ytjjpkidmlpmgaaa
