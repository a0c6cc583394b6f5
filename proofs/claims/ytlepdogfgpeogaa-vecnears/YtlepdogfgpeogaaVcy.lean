/-
  Packed numbers: whether they are right, the package's look.
-/
import Derived.Test.YtlepdogfgpeogaaVce
import Derived.Test.YtlepdogfgpeogaaFwn
namespace Go.Proofs.Ytlepdogfgpeogaa
open Go.RowKit Go.Lib Go.Maps

theorem tyu8 : Ty .u8 5 46 := ⟨Try.underlying46, Try.underlying5, by kernel_rfl, by kernel_rfl⟩
abbrev uV (z : Int) : Value := .int .u8 z
/-- A byte without a number that may not be. -/
def okB (b : Int) : Bool := decide (b % 16 ≠ 8) && decide (b / 16 ≠ 8)
/-- Packed numbers that are right. -/
def rightB (n g : Int) (ss hs : List Int) : Bool :=
  if n < 0 ∨ 1048576 < n then false
  else if ¬ (1 ≤ g ∧ g ≤ 256) then false
  else if (ss.length : Int) ≠ (n + g - 1) / g ∨ (hs.length : Int) ≠ (n + 1) / 2 then false
  else ss.all (fun s => decide (s ≤ 5)) && (hs.all okB && (decide (n % 2 = 0) || decide (hs.getD (n / 2).toNat 0 / 16 = 0)))
theorem right_1 {n g : Int} {ss hs : List Int} (h : n < 0 ∨ 1048576 < n) : rightB n g ss hs = false := if_pos h
theorem right_2 {n g : Int} {ss hs : List Int} (h : ¬ (n < 0 ∨ 1048576 < n)) (h2 : ¬ (1 ≤ g ∧ g ≤ 256)) : rightB n g ss hs = false := by unfold rightB; rw [if_neg h, if_pos h2]
theorem right_3 {n g : Int} {ss hs : List Int} (h : ¬ (n < 0 ∨ 1048576 < n)) (h2 : 1 ≤ g ∧ g ≤ 256) (h3 : (ss.length : Int) ≠ (n + g - 1) / g ∨ (hs.length : Int) ≠ (n + 1) / 2) : rightB n g ss hs = false := by unfold rightB; rw [if_neg h, if_neg (fun e => e h2), if_pos h3]
theorem right_4 {n g : Int} {ss hs : List Int} (h : ¬ (n < 0 ∨ 1048576 < n)) (h2 : 1 ≤ g ∧ g ≤ 256) (h3 : ¬ ((ss.length : Int) ≠ (n + g - 1) / g ∨ (hs.length : Int) ≠ (n + 1) / 2)) : rightB n g ss hs = (ss.all (fun s => decide (s ≤ 5)) && (hs.all okB && (decide (n % 2 = 0) || decide (hs.getD (n / 2).toNat 0 / 16 = 0)))) := by unfold rightB; rw [if_neg h, if_neg (fun e => e h2), if_neg h3]
theorem all_takeI {l : List Int} {f : Int → Bool} {j : Nat} (hj : j < l.length) (h : (l.take j).all f = true) (ho : f (l.getD j 0) = true) : (l.take (j + 1)).all f = true := by
  rw [take_snocD hj, List.all_append, h]
  simpa using ho
theorem all_notI {l : List Int} {f : Int → Bool} {j : Nat} (hj : j < l.length) (ho : f (l.getD j 0) = false) : l.all f = false := by
  cases e : l.all f with
  | false => rfl
  | true =>
    have := List.all_eq_true.1 e (l.getD j 0) (by rw [getD_getElem hj]; exact List.getElem_mem hj)
    rw [ho] at this; cases this
theorem and15 {b : Int} (h0 : 0 ≤ b) (h1 : b ≤ 255) : bits .and .u8 b 15 = b % 16 := by
  obtain ⟨n, rfl⟩ := Int.eq_ofNat_of_zero_le h0
  have : ∀ m : Fin 256, bits .and .u8 ((m : Nat) : Int) 15 = ((m : Nat) : Int) % 16 := by decide +kernel
  exact this ⟨n, by omega⟩

theorem isGroup_any (g : Int) (w : World) : Calls Try.prog 40 #[zV g] w fun e w' => e = .returned (.bool (decide (1 ≤ g ∧ g ≤ 256))) ∧ w' = w := by
  by_cases h1 : 1 ≤ g
  · by_cases h2 : g ≤ 256
    · rw [decide_eq_true ⟨h1, h2⟩]
      go_enter Try.func40, Try.ntmps40
      go_wp2
      go_ret
      exact ⟨by simp, rfl⟩
    · rw [decide_eq_false (fun e => h2 e.2)]
      go_enter Try.func40, Try.ntmps40
      go_wp2
      go_ret
      exact ⟨by simp, rfl⟩
  · rw [decide_eq_false (fun e => h1 e.1)]
    go_enter Try.func40, Try.ntmps40
    go_wp2
    go_ret
    exact ⟨by simp, rfl⟩
theorem parts_any (n g : Int) (w : World) (h0 : 0 ≤ n) (h1 : n ≤ 1048576) (g0 : 1 ≤ g) (g1 : g ≤ 256) : Calls Try.prog 41 #[zV n, zV g] w fun e w' => e = .returned (zV ((n + g - 1) / g)) ∧ w' = w := by
  have hg : ¬ g = 0 := by omega
  have hb0 : 0 ≤ (n + g - 1) / g := Int.ediv_nonneg (by omega) (by omega)
  have hb1 : (n + g - 1) / g ≤ n + g - 1 := Int.ediv_le_self _ (by omega)
  go_enter Try.func41, Try.ntmps41
  go_wp2
  go_ret
  exact ⟨rfl, rfl⟩

set_option maxHeartbeats 8000000 in
set_option maxRecDepth 100000 in
theorem isRight_any (p : Nat → Prop) (n g : Int) (sv hv : Value) (ss hs : List Int) (w : World) (hS : Rk .u8 p w sv ss) (hH : Rk .u8 p w hv hs) (hn : I64 n) (hg : I64 g) :
    Calls Try.prog 44 #[.agg #[zV n, zV g, sv, hv]] w fun e w' => e = .returned (.bool (rightB n g ss hs)) ∧ Fresh w w' := by
  obtain ⟨sa, scp, hsv, _⟩ := hS.shape
  obtain ⟨ba, bcp, hhv, _⟩ := hH.shape
  have hsm := hS.many
  have hhm := hH.many
  subst hsv
  subst hhv
  have hbox : (w.alloc (.cells #[zV n, zV g, .slice sa ss.length scp, .slice ba hs.length bcp] 48)).heap[w.heap.size]? = some (.cells #[zV n, zV g, .slice sa ss.length scp, .slice ba hs.length bcp] 48 (0, 0)) := heap_alloc_new w _
  have hF0 : Fresh w (w.alloc (.cells #[zV n, zV g, .slice sa ss.length scp, .slice ba hs.length bcp] 48)) := (Kept.refl _ w).alloc _
  obtain ⟨W0, hW0⟩ : ∃ W0, W0 = w.alloc (.cells #[zV n, zV g, .slice sa ss.length scp, .slice ba hs.length bcp] 48) := ⟨_, rfl⟩
  rw [← hW0] at hbox hF0
  have c0 : W0.cell? ⟨w.heap.size, 0, none⟩ = some (zV n) := by rw [Lib.cell_of_heap hbox]; rfl
  have c1 : W0.cell? ⟨w.heap.size, 1, none⟩ = some (zV g) := by rw [Lib.cell_of_heap hbox]; rfl
  have c2 : W0.cell? ⟨w.heap.size, 2, none⟩ = some (.slice sa ss.length scp) := by rw [Lib.cell_of_heap hbox]; rfl
  have c3 : W0.cell? ⟨w.heap.size, 3, none⟩ = some (.slice ba hs.length bcp) := by rw [Lib.cell_of_heap hbox]; rfl
  have HF0 : Hid (∀ d, Fresh w (W0.drewN d)) := fun d => hF0.drewN d
  have HF00 : Hid (Fresh w W0) := hF0
  obtain ⟨n0, n1⟩ := hn
  obtain ⟨g0, g1⟩ := hg
  by_cases h1 : n < 0
  · rw [right_1 (.inl h1)]
    clear hS hH
    go_enter Try.func44, Try.ntmps44
    go_wp2_with fail
    rw [← hW0]
    go_wp2
    go_ret
    exact ⟨rfl, HF00.out⟩
  have h1' : decide (n < 0) = false := by simp; omega
  by_cases h2 : 1048576 < n
  · rw [right_1 (.inr h2)]
    clear hS hH
    go_enter Try.func44, Try.ntmps44
    go_wp2_with fail
    rw [← hW0]
    go_wp2
    go_ret
    exact ⟨rfl, HF00.out⟩
  have h2' : decide (1048576 < n) = false := by simp; omega
  have HG : Hid (Unit → _) := fun (_ : Unit) => isGroup_any g W0
  by_cases h3 : 1 ≤ g ∧ g ≤ 256
  · obtain ⟨g2, g3⟩ := h3
    rw [decide_eq_true ⟨g2, g3⟩] at HG
    have HP1 : Hid (∀ m, _) := fun m => parts_any n g (W0.drewN m) (by omega) (by omega) g2 g3
    have HP2 : Hid (∀ m, _) := fun m => parts_any n 2 (W0.drewN m) (by omega) (by omega) (by omega) (by omega)
    rw [show n + 2 - 1 = n + 1 by omega] at HP2
    have HR4 := show Hid _ from @right_4 n g ss hs (by omega) ⟨g2, g3⟩
    have HR3 := show Hid _ from @right_3 n g ss hs (by omega) ⟨g2, g3⟩
    have HC : Hid ((0 < ss.length → ∃ b off, sa = some ⟨b, off, none⟩ ∧ ∀ W, Fresh w W → ∀ i, i < ss.length → W.cell? ⟨b, off + i, none⟩ = some (uV (ss.getD i 0))) ∧ (0 < hs.length → ∃ b off, ba = some ⟨b, off, none⟩ ∧ ∀ W, Fresh w W → ∀ i, i < hs.length → W.cell? ⟨b, off + i, none⟩ = some (uV (hs.getD i 0)))) := by
      constructor
      · intro hp
        obtain ⟨b, off, e, _, hb, hcell⟩ := hS.cells.2.2.2 hp
        exact ⟨b, off, e, fun W hF i hi => (hF.cell (p := ⟨b, off + i, none⟩) hb (fun e => e)).trans (hcell i hi)⟩
      · intro hp
        obtain ⟨b, off, e, _, hb, hcell⟩ := hH.cells.2.2.2 hp
        exact ⟨b, off, e, fun W hF i hi => (hF.cell (p := ⟨b, off + i, none⟩) hb (fun e => e)).trans (hcell i hi)⟩
    have HI : Hid (∀ i, (0 ≤ ss.getD i 0 ∧ ss.getD i 0 ≤ 255) ∧ 0 ≤ hs.getD i 0 ∧ hs.getD i 0 ≤ 255) := fun i => ⟨hS.get i, hH.get i⟩
    obtain ⟨ls, hls⟩ : ∃ ls, ss.length = ls := ⟨_, rfl⟩
    obtain ⟨lh, hlh⟩ : ∃ lh, hs.length = lh := ⟨_, rfl⟩
    have HL : Hid (ss.length = ls ∧ hs.length = lh) := ⟨hls, hlh⟩
    rw [hls] at HR3 HR4 hsm
    rw [hlh] at HR3 HR4 hhm
    rw [hls, hlh] at hW0 HC ⊢
    rw [hls] at c2
    rw [hlh] at c3
    have hA0 : 0 ≤ (n + g - 1) / g := Int.ediv_nonneg (by omega) (by omega)
    obtain ⟨A, hA⟩ : ∃ A, (n + g - 1) / g = A := ⟨_, rfl⟩
    rw [hA] at HP1 HR3 HR4 hA0
    by_cases h4 : (ls : Int) = A
    · by_cases h5 : (lh : Int) = (n + 1) / 2
      · rw [HR4.out (by rintro (e | e); exact e h4; exact e h5)]
        obtain ⟨B1, hB1⟩ : ∃ B1, ss.all (fun s => decide (s ≤ 5)) = B1 := ⟨_, rfl⟩
        obtain ⟨B2, hB2⟩ : ∃ B2, hs.all okB = B2 := ⟨_, rfl⟩
        obtain ⟨B3, hB3⟩ : ∃ B3, (decide (n % 2 = 0) || decide (hs.getD (n / 2).toNat 0 / 16 = 0)) = B3 := ⟨_, rfl⟩
        rw [hB1, hB2, hB3]
        have HB : Hid (ss.all (fun s => decide (s ≤ 5)) = B1 ∧ hs.all okB = B2 ∧ (decide (n % 2 = 0) || decide (hs.getD (n / 2).toNat 0 / 16 = 0)) = B3) := ⟨hB1, hB2, hB3⟩
        clear hB1 hB2 hB3
        have h4b : ((ls : Int) != A) = false := by simp [h4]
        have h5b : ((lh : Int) != (n + 1) / 2) = false := by simp [h5]
        clear hS hH hls hlh hbox hF0 HR3 HR4 hA
        go_enter Try.func44, Try.ntmps44
        go_wp2_with fail
        rw [← hW0]
        refine (HG.out ()).mono ?_
        rintro e w1 ⟨rfl, hw1⟩
        have hw2 := hw1.symm
        subst hw2
        clear hw1 HG hW0
        go_wp2_with fail
        go_quiet ((go_at_call 41; first | (with_reducible exact Calls.quiet_of_same (HP1.out _)) | (with_reducible exact Calls.quiet_of_same (HP2.out _))))
        obtain ⟨W1, hW1⟩ : ∃ W1, W1 = W0.drewN nq := ⟨_, rfl⟩
        have HW1 : Hid (Fresh w W1) := by show Fresh _ _; rw [hW1]; exact HF0.out nq
        have e0 : W1.cell? ⟨w.heap.size, 0, none⟩ = some (zV n) := by rw [hW1]; exact c0
        have e1 : W1.cell? ⟨w.heap.size, 1, none⟩ = some (zV g) := by rw [hW1]; exact c1
        have e2 : W1.cell? ⟨w.heap.size, 2, none⟩ = some (.slice sa ls scp) := by rw [hW1]; exact c2
        have e3 : W1.cell? ⟨w.heap.size, 3, none⟩ = some (.slice ba lh bcp) := by rw [hW1]; exact c3
        rw [← hW1]
        clear hW1 c0 c1 c2 c3 HP1 HP2 HF0 HF00
        go_wp2
        go_loopw [42] (fun iv wx => ∃ j : Nat, j ≤ ls ∧ iv = zV j ∧ Hid ((ss.take j).all (fun s => decide (s ≤ 5)) = true) ∧ wx = W1) (fun iv _ => ls - (RowKit.intOf iv).toNat)
        case atStart => exact ⟨0, Nat.zero_le _, rfl, rfl, rfl⟩
        case round =>
          obtain ⟨j, hj, rfl, HA, hwx⟩ := hrel
          have hwx' := hwx.symm
          subst hwx'
          by_cases hlt : j < ls
          · obtain ⟨b, off, rfl, hcell⟩ := HC.out.1 (by omega)
            have q1 := hcell W1 HW1.out j hlt
            have hlt' : (j : Int) < (ls : Int) := by omega
            have HT : Hid (ss.getD j 0 ≤ 5 → (ss.take (j + 1)).all (fun s => decide (s ≤ 5)) = true) := fun h => all_takeI (by rw [HL.out.1]; exact hlt) HA.out (by simpa using h)
            have HT2 : Hid (¬ ss.getD j 0 ≤ 5 → ss.all (fun s => decide (s ≤ 5)) = false) := fun h => all_notI (by rw [HL.out.1]; exact hlt) (by simpa using h)
            obtain ⟨⟨x0, x1⟩, _⟩ := HI.out j
            clear hcell HA
            generalize ss.getD j 0 = x at *
            by_cases hx : x ≤ 5
            · have HT3 : Hid ((ss.take (j + 1)).all (fun s => decide (s ≤ 5)) = true) := HT.out hx
              have hx' : ¬ 5 < x := by omega
              clear HT HT2
              go_wp2
              go_roundw
              case rel => exact ⟨j + 1, hlt, by go_num, HT3.out, trivial⟩
              case measure => simp [RowKit.intOf]; omega
            · have HT3 : Hid (B1 = false) := by show _ = _; rw [← HB.out.1]; exact HT2.out hx
              have hx' : 5 < x := by omega
              clear HT HT2
              go_wp2
              go_ret
              exact ⟨by rw [HT3.out]; rfl, HW1.out⟩
          · obtain rfl : j = ls := by omega
            have HA1 : Hid (B1 = true) := by
              show _ = _
              rw [← HB.out.1]
              have := HA.out
              rwa [List.take_of_length_le (by rw [HL.out.1]; exact Nat.le_refl _)] at this
            clear HA hlt hj
            go_wp2
            go_loopw [52] (fun iv wx => ∃ k : Nat, k ≤ lh ∧ iv = zV k ∧ Hid ((hs.take k).all okB = true) ∧ wx = W1) (fun iv _ => lh - (RowKit.intOf iv).toNat)
            case atStart => exact ⟨0, Nat.zero_le _, rfl, rfl, rfl⟩
            case round =>
              obtain ⟨k, hk, rfl, HA, hwx⟩ := hrel
              have hwx' := hwx.symm
              subst hwx'
              by_cases hlt : k < lh
              · obtain ⟨b, off, rfl, hcell⟩ := HC.out.2 (by omega)
                have q1 := hcell W1 HW1.out k hlt
                have hlt' : (k : Int) < (lh : Int) := by omega
                have HT : Hid (okB (hs.getD k 0) = true → (hs.take (k + 1)).all okB = true) := fun h => all_takeI (by rw [HL.out.2]; exact hlt) HA.out h
                have HT2 : Hid (okB (hs.getD k 0) = false → hs.all okB = false) := fun h => all_notI (by rw [HL.out.2]; exact hlt) h
                obtain ⟨_, x0, x1⟩ := HI.out k
                clear hcell HA
                generalize hs.getD k 0 = x at *
                have ha := and15 x0 x1
                by_cases hx : x % 16 = 8
                · have HT3 : Hid (B2 = false) := by show _ = _; rw [← HB.out.2.1]; exact HT2.out (by unfold okB; simp [hx])
                  clear HT HT2
                  go_wp2
                  go_ret
                  exact ⟨by rw [HA1.out, HT3.out]; rfl, HW1.out⟩
                · by_cases hx2 : x / 16 = 8
                  · have HT3 : Hid (B2 = false) := by show _ = _; rw [← HB.out.2.1]; exact HT2.out (by unfold okB; simp [hx2])
                    have hx' : (x % 16 == 8) = false := by simp [hx]
                    clear HT HT2
                    go_wp2
                    go_ret
                    exact ⟨by rw [HA1.out, HT3.out]; rfl, HW1.out⟩
                  · have HT3 : Hid ((hs.take (k + 1)).all okB = true) := HT.out (by unfold okB; simp [hx, hx2])
                    have hx' : (x % 16 == 8) = false := by simp [hx]
                    have hx2' : (x / 16 == 8) = false := by simp [hx2]
                    clear HT HT2
                    go_wp2
                    go_roundw
                    case rel => exact ⟨k + 1, hlt, by go_num, HT3.out, trivial⟩
                    case measure => simp [RowKit.intOf]; omega
              · obtain rfl : k = lh := by omega
                have HA2 : Hid (B2 = true) := by
                  show _ = _
                  rw [← HB.out.2.1]
                  have := HA.out
                  rwa [List.take_of_length_le (by rw [HL.out.2]; exact Nat.le_refl _)] at this
                clear HA hlt hk
                by_cases hev : n % 2 = 0
                · have hev' : (n % 2 == 0) = true := by simp [hev]
                  have HA3 : Hid (B3 = true) := by show _ = _; rw [← HB.out.2.2, decide_eq_true hev]; rfl
                  go_wp2
                  go_ret
                  exact ⟨by rw [HA1.out, HA2.out, HA3.out]; rfl, HW1.out⟩
                · have hev' : (n % 2 == 0) = false := by simp [hev]
                  obtain ⟨q, hq⟩ : ∃ q : Nat, n / 2 = q := ⟨(n / 2).toNat, by omega⟩
                  have hql : q < k := by omega
                  have hql' : (q : Int) < (k : Int) := by omega
                  obtain ⟨b, off, rfl, hcell⟩ := HC.out.2 (by omega)
                  have q1 := hcell W1 HW1.out q hql
                  obtain ⟨_, x0, x1⟩ := HI.out q
                  have HQ : Hid ((n / 2).toNat = q) := by show _ = _; rw [hq]; rfl
                  clear hcell
                  have HX : Hid (∀ x, hs.getD q 0 = x → B3 = decide (x / 16 = 0)) := fun x hx => by rw [← HB.out.2.2, HQ.out, hx, decide_eq_false hev, Bool.false_or]
                  obtain ⟨x, hx⟩ : ∃ x, hs.getD q 0 = x := ⟨_, rfl⟩
                  have HX2 : Hid _ := HX.out x hx
                  rw [hx] at q1 x0 x1
                  clear HX hx HQ
                  go_wp2
                  go_ret
                  exact ⟨by rw [HA1.out, HA2.out, HX2.out]; by_cases e : x / 16 = 0 <;> simp [e], HW1.out⟩
      · rw [HR3.out (.inr h5)]
        have h4b : ((ls : Int) != A) = false := by simp [h4]
        have h5b : ((lh : Int) != (n + 1) / 2) = true := bne_iff_ne.2 h5
        clear hS hH hls hlh hbox hF0 HR3 HR4 hA HC HI
        go_enter Try.func44, Try.ntmps44
        go_wp2_with fail
        rw [← hW0]
        refine (HG.out ()).mono ?_
        rintro e w1 ⟨rfl, hw1⟩
        have hw2 := hw1.symm
        subst hw2
        clear hw1 HG hW0
        go_wp2_with fail
        go_quiet ((go_at_call 41; first | (with_reducible exact Calls.quiet_of_same (HP1.out _)) | (with_reducible exact Calls.quiet_of_same (HP2.out _))))
        have HW1 := show Hid _ from HF0.out nq
        clear c0 c1 c2 c3 HP1 HP2 HF0
        go_wp2
        go_ret
        exact ⟨rfl, HW1.out⟩
    · rw [HR3.out (.inl h4)]
      have h4b : ((ls : Int) != A) = true := bne_iff_ne.2 h4
      clear hS hH hls hlh hbox hF0 HR3 HR4 hA HC HI
      go_enter Try.func44, Try.ntmps44
      go_wp2_with fail
      rw [← hW0]
      refine (HG.out ()).mono ?_
      rintro e w1 ⟨rfl, hw1⟩
      have hw2 := hw1.symm
      subst hw2
      clear hw1 HG hW0
      go_wp2_with fail
      go_quiet ((go_at_call 41; first | (with_reducible exact Calls.quiet_of_same (HP1.out _)) | (with_reducible exact Calls.quiet_of_same (HP2.out _))))
      have HW1 := show Hid _ from HF0.out nq
      clear c0 c1 c2 c3 HP1 HP2 HF0
      go_wp2
      go_ret
      exact ⟨rfl, HW1.out⟩
  · rw [right_2 (by omega) h3]
    rw [decide_eq_false h3] at HG
    clear hS hH
    go_enter Try.func44, Try.ntmps44
    go_wp2_with fail
    rw [← hW0]
    refine (HG.out ()).mono ?_
    rintro e w1 ⟨rfl, hw1⟩
    have hw2 := hw1.symm
    subst hw2
    clear hw1 HG hW0
    go_wp2
    go_ret
    exact ⟨rfl, HF00.out⟩
end Go.Proofs.Ytlepdogfgpeogaa
