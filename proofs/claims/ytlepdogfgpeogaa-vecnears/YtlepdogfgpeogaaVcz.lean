/-
  Packed numbers: whether they are right, the document's look.
-/
import Derived.Test.YtlepdogfgpeogaaVcy
namespace Go.Proofs.Ytlepdogfgpeogaa
open Go.RowKit Go.Lib Go.Maps

set_option maxHeartbeats 8000000 in
set_option maxRecDepth 100000 in
theorem right_any (p : Nat → Prop) (n g : Int) (sv hv : Value) (ss hs : List Int) (w : World) (hS : Rk .u8 p w sv ss) (hH : Rk .u8 p w hv hs) (hn : I64 n) (hg : I64 g) :
    Calls Try.prog 46 #[.agg #[zV n, zV g, sv, hv]] w fun e w' => e = .returned (.bool (rightB n g ss hs)) ∧ Fresh w w' := by
  obtain ⟨sa, scp, hsv, _⟩ := hS.shape
  obtain ⟨ba, bcp, hhv, _⟩ := hH.shape
  have hsm := hS.many
  have hhm := hH.many
  subst hsv
  subst hhv
  have hbox : (w.alloc (.cells #[zV n, zV g, .slice sa ss.length scp, .slice ba hs.length bcp] 51)).heap[w.heap.size]? = some (.cells #[zV n, zV g, .slice sa ss.length scp, .slice ba hs.length bcp] 51 (0, 0)) := heap_alloc_new w _
  have hF0 : Fresh w (w.alloc (.cells #[zV n, zV g, .slice sa ss.length scp, .slice ba hs.length bcp] 51)) := (Kept.refl _ w).alloc _
  obtain ⟨W0, hW0⟩ : ∃ W0, W0 = w.alloc (.cells #[zV n, zV g, .slice sa ss.length scp, .slice ba hs.length bcp] 51) := ⟨_, rfl⟩
  rw [← hW0] at hbox hF0
  have c0 : W0.cell? ⟨w.heap.size, 0, none⟩ = some (zV n) := by rw [Lib.cell_of_heap hbox]; rfl
  have c1 : W0.cell? ⟨w.heap.size, 1, none⟩ = some (zV g) := by rw [Lib.cell_of_heap hbox]; rfl
  have c2 : W0.cell? ⟨w.heap.size, 2, none⟩ = some (.slice sa ss.length scp) := by rw [Lib.cell_of_heap hbox]; rfl
  have c3 : W0.cell? ⟨w.heap.size, 3, none⟩ = some (.slice ba hs.length bcp) := by rw [Lib.cell_of_heap hbox]; rfl
  have HF0 : Hid (∀ d, Fresh w (W0.drewN d)) := fun d => hF0.drewN d
  have HF00 : Hid (Fresh w W0) := hF0
  obtain ⟨n0, n1⟩ := hn
  obtain ⟨g0, g1⟩ := hg
  by_cases h1 : n < 0
  · rw [right_1 (.inl h1)]
    clear hS hH
    go_enter Try.func46, Try.ntmps46
    go_wp2_with fail
    rw [← hW0]
    go_wp2
    go_ret
    exact ⟨rfl, HF00.out⟩
  have h1' : decide (n < 0) = false := by simp; omega
  by_cases h2 : 1048576 < n
  · rw [right_1 (.inr h2)]
    clear hS hH
    go_enter Try.func46, Try.ntmps46
    go_wp2_with fail
    rw [← hW0]
    go_wp2
    go_ret
    exact ⟨rfl, HF00.out⟩
  have h2' : decide (1048576 < n) = false := by simp; omega
  by_cases h3a : g < 1
  · rw [right_2 (by omega) (by omega)]
    clear hS hH
    go_enter Try.func46, Try.ntmps46
    go_wp2_with fail
    rw [← hW0]
    go_wp2
    go_ret
    exact ⟨rfl, HF00.out⟩
  have h3a' : decide (g < 1) = false := by simp; omega
  by_cases h3b : 256 < g
  · rw [right_2 (by omega) (by omega)]
    clear hS hH
    go_enter Try.func46, Try.ntmps46
    go_wp2_with fail
    rw [← hW0]
    go_wp2
    go_ret
    exact ⟨rfl, HF00.out⟩
  have h3b' : decide (256 < g) = false := by simp; omega
  have g2 : 1 ≤ g := by omega
  have g3 : g ≤ 256 := by omega
  have hgz : ¬ g = 0 := by omega
  by_cases h3 : 1 ≤ g ∧ g ≤ 256
  · clear h3
    have HR4 := show Hid _ from @right_4 n g ss hs (by omega) ⟨g2, g3⟩
    have HR3 := show Hid _ from @right_3 n g ss hs (by omega) ⟨g2, g3⟩
    have HC : Hid ((0 < ss.length → ∃ b off, sa = some ⟨b, off, none⟩ ∧ ∀ W, Fresh w W → ∀ i, i < ss.length → W.cell? ⟨b, off + i, none⟩ = some (uV (ss.getD i 0))) ∧ (0 < hs.length → ∃ b off, ba = some ⟨b, off, none⟩ ∧ ∀ W, Fresh w W → ∀ i, i < hs.length → W.cell? ⟨b, off + i, none⟩ = some (uV (hs.getD i 0)))) := by
      constructor
      · intro hp
        obtain ⟨b, off, e, _, hb, hcell⟩ := hS.cells.2.2.2 hp
        exact ⟨b, off, e, fun W hF i hi => (hF.cell (p := ⟨b, off + i, none⟩) hb (fun e => e)).trans (hcell i hi)⟩
      · intro hp
        obtain ⟨b, off, e, _, hb, hcell⟩ := hH.cells.2.2.2 hp
        exact ⟨b, off, e, fun W hF i hi => (hF.cell (p := ⟨b, off + i, none⟩) hb (fun e => e)).trans (hcell i hi)⟩
    have HI : Hid (∀ i, (0 ≤ ss.getD i 0 ∧ ss.getD i 0 ≤ 255) ∧ 0 ≤ hs.getD i 0 ∧ hs.getD i 0 ≤ 255) := fun i => ⟨hS.get i, hH.get i⟩
    obtain ⟨ls, hls⟩ : ∃ ls, ss.length = ls := ⟨_, rfl⟩
    obtain ⟨lh, hlh⟩ : ∃ lh, hs.length = lh := ⟨_, rfl⟩
    have HL : Hid (ss.length = ls ∧ hs.length = lh) := ⟨hls, hlh⟩
    rw [hls] at HR3 HR4 hsm
    rw [hlh] at HR3 HR4 hhm
    rw [hls, hlh] at hW0 HC ⊢
    rw [hls] at c2
    rw [hlh] at c3
    have hA0 : 0 ≤ (n + g - 1) / g := Int.ediv_nonneg (by omega) (by omega)
    obtain ⟨A, hA⟩ : ∃ A, (n + g - 1) / g = A := ⟨_, rfl⟩
    rw [hA] at HR3 HR4 hA0
    have hA1 : A ≤ n + g - 1 := by rw [← hA]; exact Int.ediv_le_self _ (by omega)
    have hAg : (n + g - 1) / g = A := hA
    by_cases h4 : (ls : Int) = A
    · by_cases h5 : (lh : Int) = (n + 1) / 2
      · rw [HR4.out (by rintro (e | e); exact e h4; exact e h5)]
        obtain ⟨B1, hB1⟩ : ∃ B1, ss.all (fun s => decide (s ≤ 5)) = B1 := ⟨_, rfl⟩
        obtain ⟨B2, hB2⟩ : ∃ B2, hs.all okB = B2 := ⟨_, rfl⟩
        obtain ⟨B3, hB3⟩ : ∃ B3, (decide (n % 2 = 0) || decide (hs.getD (n / 2).toNat 0 / 16 = 0)) = B3 := ⟨_, rfl⟩
        rw [hB1, hB2, hB3]
        have HB : Hid (ss.all (fun s => decide (s ≤ 5)) = B1 ∧ hs.all okB = B2 ∧ (decide (n % 2 = 0) || decide (hs.getD (n / 2).toNat 0 / 16 = 0)) = B3) := ⟨hB1, hB2, hB3⟩
        clear hB1 hB2 hB3
        have h4b : ((ls : Int) != A) = false := by simp [h4]
        have h5b : ((lh : Int) != (n + 1) / 2) = false := by simp [h5]
        clear hS hH hls hlh hbox hF0 HR3 HR4
        go_enter Try.func46, Try.ntmps46
        go_wp2_with fail
        rw [← hW0]
        clear hW0
        go_wp2_with fail
        go_quiet (fail)
        obtain ⟨W1, hW1⟩ : ∃ W1, W1 = W0.drewN nq := ⟨_, rfl⟩
        have HW1 : Hid (Fresh w W1) := by show Fresh _ _; rw [hW1]; exact HF0.out nq
        have e0 : W1.cell? ⟨w.heap.size, 0, none⟩ = some (zV n) := by rw [hW1]; exact c0
        have e1 : W1.cell? ⟨w.heap.size, 1, none⟩ = some (zV g) := by rw [hW1]; exact c1
        have e2 : W1.cell? ⟨w.heap.size, 2, none⟩ = some (.slice sa ls scp) := by rw [hW1]; exact c2
        have e3 : W1.cell? ⟨w.heap.size, 3, none⟩ = some (.slice ba lh bcp) := by rw [hW1]; exact c3
        rw [← hW1]
        clear hW1 c0 c1 c2 c3 HF0 HF00
        go_wp2
        go_loopw [51] (fun iv wx => ∃ j : Nat, j ≤ ls ∧ iv = zV j ∧ Hid ((ss.take j).all (fun s => decide (s ≤ 5)) = true) ∧ wx = W1) (fun iv _ => ls - (RowKit.intOf iv).toNat)
        case atStart => exact ⟨0, Nat.zero_le _, rfl, rfl, rfl⟩
        case round =>
          obtain ⟨j, hj, rfl, HA, hwx⟩ := hrel
          have hwx' := hwx.symm
          subst hwx'
          by_cases hlt : j < ls
          · obtain ⟨b, off, rfl, hcell⟩ := HC.out.1 (by omega)
            have q1 := hcell W1 HW1.out j hlt
            have hlt' : (j : Int) < (ls : Int) := by omega
            have HT : Hid (ss.getD j 0 ≤ 5 → (ss.take (j + 1)).all (fun s => decide (s ≤ 5)) = true) := fun h => all_takeI (by rw [HL.out.1]; exact hlt) HA.out (by simpa using h)
            have HT2 : Hid (¬ ss.getD j 0 ≤ 5 → ss.all (fun s => decide (s ≤ 5)) = false) := fun h => all_notI (by rw [HL.out.1]; exact hlt) (by simpa using h)
            obtain ⟨⟨x0, x1⟩, _⟩ := HI.out j
            clear hcell HA
            generalize ss.getD j 0 = x at *
            by_cases hx : x ≤ 5
            · have HT3 : Hid ((ss.take (j + 1)).all (fun s => decide (s ≤ 5)) = true) := HT.out hx
              have hx' : ¬ 5 < x := by omega
              clear HT HT2
              go_wp2
              go_roundw
              case rel => exact ⟨j + 1, hlt, by go_num, HT3.out, trivial⟩
              case measure => simp [RowKit.intOf]; omega
            · have HT3 : Hid (B1 = false) := by show _ = _; rw [← HB.out.1]; exact HT2.out hx
              have hx' : 5 < x := by omega
              clear HT HT2
              go_wp2
              go_ret
              exact ⟨by rw [HT3.out]; rfl, HW1.out⟩
          · obtain rfl : j = ls := by omega
            have HA1 : Hid (B1 = true) := by
              show _ = _
              rw [← HB.out.1]
              have := HA.out
              rwa [List.take_of_length_le (by rw [HL.out.1]; exact Nat.le_refl _)] at this
            clear HA hlt hj
            go_wp2
            go_loopw [61] (fun iv wx => ∃ k : Nat, k ≤ lh ∧ iv = zV k ∧ Hid ((hs.take k).all okB = true ∧ ∀ i, i < k → ¬ (2 * (i : Int) + 1 = n ∧ ¬ hs.getD i 0 / 16 = 0)) ∧ wx = W1) (fun iv _ => lh - (RowKit.intOf iv).toNat)
            case atStart => exact ⟨0, Nat.zero_le _, rfl, ⟨rfl, fun i hi => absurd hi (Nat.not_lt_zero i)⟩, rfl⟩
            case round =>
              obtain ⟨k, hk, rfl, HA, hwx⟩ := hrel
              have hwx' := hwx.symm
              subst hwx'
              by_cases hlt : k < lh
              · obtain ⟨b, off, rfl, hcell⟩ := HC.out.2 (by omega)
                have q1 := hcell W1 HW1.out k hlt
                have hlt' : (k : Int) < (lh : Int) := by omega
                have HT : Hid (okB (hs.getD k 0) = true → (2 * (k : Int) + 1 = n → hs.getD k 0 / 16 = 0) → (hs.take (k + 1)).all okB = true ∧ ∀ i, i < k + 1 → ¬ (2 * (i : Int) + 1 = n ∧ ¬ hs.getD i 0 / 16 = 0)) := fun h h' => ⟨all_takeI (by rw [HL.out.2]; exact hlt) HA.out.1 h, fun i hi e => by
                  rcases Nat.lt_or_ge i k with q | q
                  · exact HA.out.2 i q e
                  · obtain rfl : i = k := by omega
                    exact e.2 (h' e.1)⟩
                have HT2 : Hid (okB (hs.getD k 0) = false → hs.all okB = false) := fun h => all_notI (by rw [HL.out.2]; exact hlt) h
                have HT4 : Hid (2 * (k : Int) + 1 = n → ¬ hs.getD k 0 / 16 = 0 → B3 = false) := fun h h' => by
                  have e1 : (n / 2).toNat = k := by omega
                  rw [← HB.out.2.2, e1, decide_eq_false h', decide_eq_false (by omega)]; rfl
                obtain ⟨_, x0, x1⟩ := HI.out k
                clear hcell HA
                generalize hs.getD k 0 = x at *
                by_cases hx : x % 16 = 8
                · have HT3 : Hid (B2 = false) := by show _ = _; rw [← HB.out.2.1]; exact HT2.out (by unfold okB; simp [hx])
                  have hx' : (x % 16 == 8) = true := by simp [hx]
                  clear HT HT2 HT4
                  go_wp2
                  go_ret
                  exact ⟨by rw [HA1.out, HT3.out]; rfl, HW1.out⟩
                · by_cases hx2 : x / 16 = 8
                  · have HT3 : Hid (B2 = false) := by show _ = _; rw [← HB.out.2.1]; exact HT2.out (by unfold okB; simp [hx2])
                    have hx' : (x % 16 == 8) = false := by simp [hx]
                    have hx2' : (x / 16 == 8) = true := by simp [hx2]
                    clear HT HT2 HT4
                    go_wp2
                    go_ret
                    exact ⟨by rw [HA1.out, HT3.out]; rfl, HW1.out⟩
                  · have hx' : (x % 16 == 8) = false := by simp [hx]
                    have hx2' : (x / 16 == 8) = false := by simp [hx2]
                    by_cases hlast : 2 * (k : Int) + 1 = n
                    · have hl' : (2 * (k : Int) + 1 == n) = true := by simp [hlast]
                      by_cases hx3 : x / 16 = 0
                      · have HT3 := show Hid _ from HT.out (by unfold okB; simp [hx, hx2]) (fun _ => hx3)
                        have hx3' : (x / 16 != 0) = false := by simp [hx3]
                        clear HT HT2 HT4
                        go_wp2
                        go_roundw
                        case rel => exact ⟨k + 1, hlt, by go_num, HT3.out, trivial⟩
                        case measure => simp [RowKit.intOf]; omega
                      · have HT3 : Hid (B3 = false) := HT4.out hlast hx3
                        have hx3' : (x / 16 != 0) = true := bne_iff_ne.2 hx3
                        clear HT HT2 HT4
                        go_wp2
                        go_ret
                        exact ⟨by rw [HT3.out]; simp, HW1.out⟩
                    · have hl' : (2 * (k : Int) + 1 == n) = false := by simp [hlast]
                      have HT3 := show Hid _ from HT.out (by unfold okB; simp [hx, hx2]) (fun e => absurd e hlast)
                      clear HT HT2 HT4
                      go_wp2
                      go_roundw
                      case rel => exact ⟨k + 1, hlt, by go_num, HT3.out, trivial⟩
                      case measure => simp [RowKit.intOf]; omega
              · obtain rfl : k = lh := by omega
                have HA2 : Hid (B2 = true ∧ B3 = true) := by
                  refine ⟨?_, ?_⟩
                  · rw [← HB.out.2.1]
                    have := HA.out.1
                    rwa [List.take_of_length_le (by rw [HL.out.2]; exact Nat.le_refl _)] at this
                  · rw [← HB.out.2.2]
                    by_cases hev : n % 2 = 0
                    · rw [decide_eq_true hev]; rfl
                    · have h6 := HA.out.2 (n / 2).toNat (by omega)
                      have h7 : hs.getD (n / 2).toNat 0 / 16 = 0 := by
                        by_cases e : hs.getD (n / 2).toNat 0 / 16 = 0
                        · exact e
                        · exact absurd ⟨by omega, e⟩ h6
                      rw [decide_eq_true h7, Bool.or_true]
                clear HA hlt hk
                go_wp2
                go_ret
                exact ⟨by rw [HA1.out, HA2.out.1, HA2.out.2]; rfl, HW1.out⟩
      · rw [HR3.out (.inr h5)]
        have h4b : ((ls : Int) != A) = false := by simp [h4]
        have h5b : ((lh : Int) != (n + 1) / 2) = true := bne_iff_ne.2 h5
        clear hS hH hls hlh hbox hF0 HR3 HR4 HC HI
        go_enter Try.func46, Try.ntmps46
        go_wp2_with fail
        rw [← hW0]
        clear hW0
        go_wp2_with fail
        go_quiet (fail)
        have HW1 := show Hid _ from HF0.out nq
        clear c0 c1 c2 c3 HF0
        go_wp2
        go_ret
        exact ⟨rfl, HW1.out⟩
    · rw [HR3.out (.inl h4)]
      have h4b : ((ls : Int) != A) = true := bne_iff_ne.2 h4
      clear hS hH hls hlh hbox hF0 HR3 HR4 HC HI
      go_enter Try.func46, Try.ntmps46
      go_wp2_with fail
      rw [← hW0]
      clear hW0
      go_wp2_with fail
      go_quiet (fail)
      have HW1 := show Hid _ from HF0.out nq
      clear c0 c1 c2 c3 HF0
      go_wp2
      go_ret
      exact ⟨rfl, HW1.out⟩
  · exact absurd ⟨g2, g3⟩ h3
end Go.Proofs.Ytlepdogfgpeogaa
