/-
  Times, the package's and the document's; awake.
-/
import Derived.Test.YtbppahmcjifflaaDoorVcd
namespace Go.Proofs.YtbppahmcjifflaaDoor
open Go.RowKit Go.Lib Go.Maps

set_option maxHeartbeats 1000000 in
set_option maxRecDepth 100000 in
theorem same8_any (p q : Nat → Prop) (a b : Value) (zs : List Int) (w : World) (ha : Rk .i8 p w a zs) (hb : Rk .i8 q w b zs) :
    Calls Tryd.prog 12 #[a, b] w fun e w' => e = .returned (.bool true) ∧ ∃ n, w' = w.drewN n := by
  obtain ⟨ao, ac, rfl, _⟩ := ha.shape
  obtain ⟨bo, bc, rfl, _⟩ := hb.shape
  obtain ⟨_, _, _, hca⟩ := ha.cells
  obtain ⟨_, _, _, hcb⟩ := hb.cells
  have hmany := ha.many
  obtain ⟨n, hn⟩ : ∃ n, zs.length = n := ⟨_, rfl⟩
  rw [hn] at hca hcb hmany ⊢
  clear ha hb hn
  go_enter Tryd.func12, Tryd.ntmps12
  go_wp2
  go_loopw [13] (fun i wr => ∃ j : Nat, j ≤ n ∧ i = zV j ∧ ∃ n, wr = w.drewN n) (fun i _ => n - (RowKit.intOf i).toNat)
  case atStart => exact ⟨0, Nat.zero_le _, rfl, 0, rfl⟩
  case round =>
    obtain ⟨j, hj, rfl, d, rfl⟩ := hrel
    by_cases hlt : j < n
    · obtain ⟨ab, aoff, rfl, _, _, h1⟩ := hca (by omega)
      obtain ⟨bb, boff, rfl, _, _, h2⟩ := hcb (by omega)
      have g1 := h1 j hlt
      have g2 := h2 j hlt
      have hlt' : (j : Int) < (n : Int) := by omega
      clear h1 h2 hca hcb
      generalize zs.getD j 0 = x at *
      go_wp2_with fail
      go_quiet (fail)
      go_wp2
      go_roundw
      case rel => exact ⟨j + 1, hlt, by go_num, d + nq, rfl⟩
      case measure => simp [RowKit.intOf]; omega
    · obtain rfl : j = n := by omega
      clear hca hcb
      go_wp2
      go_ret
      exact ⟨rfl, d, rfl⟩


set_option maxHeartbeats 2000000 in
set_option maxRecDepth 100000 in
theorem Times_any (p q : Nat → Prop) (wv xv : Value) (zs ys : List Int) (c : Int) (w : World) (hw : Rk .i8 p w wv zs) (hx : Rk .i8 q w xv ys) (hc : I64 c) :
    Calls Tryd.prog 47 #[wv, zV c, xv] w fun e w' => Gives .i64 2 (tL zs c ys) (tE zs c ys) w e w' := by
  obtain ⟨ao, ac, hva, _⟩ := hw.shape
  obtain ⟨xo, xc, hvx, _⟩ := hx.shape
  subst hva
  subst hvx
  have hrows := rowsOf_any ao ac zs c w
  have HG : Hid (∀ (E : Int), Gives .i64 2 [] E w (.returned (.tuple #[.slice none 0 0, zV E])) w) := fun E => Gives.none _ _ _ _
  by_cases h0 : mE zs c = 0
  · obtain ⟨hm, k, R, rfl, hk, hR⟩ := mE_zero h0
    rw [h0, (mE_ok hm hk hR).2] at hrows
    have HR : Hid (Unit → _) := fun (_ : Unit) => hrows
    by_cases hl : ys.length = k
    · have HE : Hid (tE zs k ys = 0 ∧ tL zs k ys = timesN zs k ys ∧ (timesN zs k ys).length = R) := ⟨tE_ok h0 (by omega), by unfold tL; rw [if_pos (tE_ok h0 (by omega)), Int.toNat_natCast], by rw [timesN_rows hR hk]; simp⟩
      have hRz : R ≤ zs.length := by rw [hR]; exact Nat.le_mul_of_pos_right _ hk
      have hmk := run_mk ty64 0 R (Nat.zero_le _) (by simp [kb]; omega) w
      rw [show ((0 : Nat) : Int) = 0 from rfl] at hmk
      have hO := own_made .i64 2 w w.heap.size (Nat.le_refl _) 0 R (Nat.zero_le _) (by omega)
      have hF0 : Fresh w (w.alloc (.cells ((List.replicate R (0 : Int)).map (Value.int .i64)).toArray 2)) := (Kept.refl _ w).alloc _
      generalize w.alloc (.cells ((List.replicate R (0 : Int)).map (Value.int .i64)).toArray 2) = W0 at *
      have hA := appendTimes_any w.heap.size w.heap.size R [] _ _ _ _ zs ys k R W0 (by simpa using hO) hF0.size (hw.low.fresh hF0) (hx.low.fresh hF0) hR hl hk hm (by simp) (fun b hb => by omega) (fun b hb => by omega)
      rw [hl, List.length_nil, Nat.zero_add, List.nil_append] at hA
      have HA : Hid (Unit → _) := fun (_ : Unit) => hA
      have HF0 : Hid (Fresh w W0) := hF0
      rw [hl]
      generalize hn : zs.length = n at *
      clear hA hO hF0 hrows hw hx hR h0 hl hm hRz hn
      go_enter Tryd.func47, Tryd.ntmps47
      go_wp2_with fail
      refine (HR.out ()).mono ?_
      rintro e w1 ⟨rfl, hw1⟩
      have hw2 := hw1.symm
      subst hw2
      clear hw1 HR
      go_wp2_with fail
      refine (HA.out ()).mono ?_
      rintro e w2 ⟨g', c', rfl, ho, hk2, hg⟩
      have HX : Hid (Gives .i64 2 (tL zs k ys) (tE zs k ys) w (.returned (.tuple #[.slice (some ⟨g', 0, none⟩) R c', zV 0])) w2) := ⟨_, by rw [HE.out.1], by rw [HE.out.2.1, HE.out.2.2]; exact ho, HF0.out.trans hk2 (fun i hi e => by omega)⟩
      clear ho hk2 hg HA
      go_wp2
      go_ret2
      exact HX.out
    · have HE : Hid (tE zs k ys = 80 ∧ tL zs k ys = []) := ⟨tE_else h0 (by omega), tL_bad (by rw [tE_else h0 (by omega)]; omega)⟩
      rw [HE.out.1, HE.out.2]
      have hl' : ¬ (ys.length : Int) = (k : Int) := by omega
      clear hrows hw hx hR h0 hl
      go_enter Tryd.func47, Tryd.ntmps47
      go_wp2_with fail
      refine (HR.out ()).mono ?_
      rintro e w1 ⟨rfl, hw1⟩
      have hw2 := hw1.symm
      subst hw2
      clear hw1 HR
      go_wp2
      go_ret2
      exact HG.out _
  · have HE : Hid (tE zs c ys = mE zs c ∧ tL zs c ys = []) := ⟨tE_bad _ h0, tL_bad (by rw [tE_bad _ h0]; exact h0)⟩
    rw [HE.out.1, HE.out.2]
    have HR : Hid (Unit → _) := fun (_ : Unit) => hrows
    have h0' : (mE zs c == 0) = false := by simp [h0]
    clear hrows hw hx
    go_enter Tryd.func47, Tryd.ntmps47
    go_wp2_with fail
    refine (HR.out ()).mono ?_
    rintro e w1 ⟨rfl, hw1⟩
    have hw2 := hw1.symm
    subst hw2
    clear hw1 HR
    go_wp2
    go_ret2
    exact HG.out _


end Go.Proofs.YtbppahmcjifflaaDoor
