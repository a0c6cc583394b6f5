/-
  The weights of scores, the package's.
-/
import Derived.Test.YtkolpdfakhlkeaaDoorSfN
import Derived.Test.YtkolpdfakhlkeaaDoorFil
import Derived.Lib.MinMax
namespace Go.Proofs.YtkolpdfakhlkeaaDoor
open Go.RowKit Go.Lib Go.Maps

set_option maxHeartbeats 1000000 in
theorem seen_any (p : Nat → Prop) (v : Value) (zs : List Int) (w : World) (h : Rk .i64 p w v zs) :
    Calls Tryd.prog 18 #[v] w fun e w' => e = .returned (.bool (decide (1 ≤ zs.length ∧ zs.length ≤ 512))) ∧ w' = w := by
  obtain ⟨ao, ac, rfl, _⟩ := h.shape
  have hm := h.many
  clear h
  generalize zs.length = n at *
  by_cases h1 : 1 ≤ n
  · by_cases h2 : n ≤ 512
    · have h1' : (1 : Int) ≤ (n : Int) := by omega
      have h2' : (n : Int) ≤ 512 := by omega
      rw [decide_eq_true (show 1 ≤ n ∧ n ≤ 512 from ⟨h1, h2⟩)]
      go_enter Tryd.func18, Tryd.ntmps18
      go_wp2
      go_ret
      exact ⟨rfl, rfl⟩
    · have h1' : (1 : Int) ≤ (n : Int) := by omega
      have h2' : ¬ (n : Int) ≤ 512 := by omega
      rw [decide_eq_false (show ¬ (1 ≤ n ∧ n ≤ 512) by omega)]
      go_enter Tryd.func18, Tryd.ntmps18
      go_wp2
      go_ret
      exact ⟨rfl, rfl⟩
  · obtain rfl : n = 0 := by omega
    rw [decide_eq_false (show ¬ (1 ≤ 0 ∧ 0 ≤ 512) by omega)]
    go_enter Tryd.func18, Tryd.ntmps18
    go_wp2
    go_ret
    exact ⟨rfl, rfl⟩

set_option maxHeartbeats 1000000 in
set_option maxRecDepth 100000 in
theorem max_any (p : Nat → Prop) (v : Value) (zs : List Int) (w : World) (h : Rk .i64 p w v zs) (h1 : 1 ≤ zs.length) :
    Calls Tryd.prog 27 #[v] w fun e w' => e = .returned (zV (tp zs zs.length)) ∧ w' = w := by
  obtain ⟨ao, ac, rfl, _⟩ := h.shape
  have hm := h.many
  obtain ⟨_, _, _, hc⟩ := h.cells
  obtain ⟨n, hn⟩ : ∃ n, zs.length = n := ⟨_, rfl⟩
  rw [hn] at hc hm h1 ⊢
  obtain ⟨b, off, rfl, _, _, hcell⟩ := hc (by omega)
  have g0 : w.cell? ⟨b, off, none⟩ = some (zV (zs.getD 0 0)) := by simpa using hcell 0 (by omega)
  have HT1 : Hid (tp zs 1 = zs.getD 0 0) := tp_one zs
  have h1' : (1 : Int) ≤ (n : Int) := by omega
  have HC : Hid (∀ i, i < n → w.cell? ⟨b, off + i, none⟩ = some (zV (zs.getD i 0))) := hcell
  clear hc h hcell hn
  generalize zs.getD 0 0 = z0 at *
  go_enter Tryd.func27, Tryd.ntmps27
  go_wp2
  clear g0
  go_loop [3, 4] (fun mv iv => ∃ j : Nat, 1 ≤ j ∧ j ≤ n ∧ iv = zV j ∧ mv = zV (tp zs j)) (fun _ iv => n - (RowKit.intOf iv).toNat)
  case atStart => exact ⟨1, Nat.le_refl _, h1, rfl, by rw [HT1.out]⟩
  case round =>
    obtain ⟨j, hj1, hj, rfl, rfl⟩ := hrel
    by_cases hlt : j < n
    · have g1 := HC.out j hlt
      have hlt' : (j : Int) < (n : Int) := by omega
      have HS : Hid (tp zs (j + 1) = max (tp zs j) (zs.getD j 0)) := rfl
      clear HC HT1
      generalize zs.getD j 0 = x at *
      generalize tp zs j = t at *
      go_wp2
      go_round
      case rel => exact ⟨j + 1, by omega, hlt, by go_num, by rw [HS.out]⟩
      case measure => simp [RowKit.intOf]; omega
    · obtain rfl : j = n := by omega
      clear HC HT1
      go_wp2
      go_ret
      exact ⟨rfl, rfl⟩

set_option maxHeartbeats 1000000 in
theorem weight_any (s m : Int) (w : World) (hB : Bend w) (hs : I64 s) (hm : I64 m) (hsm : s ≤ m) :
    Calls Tryd.prog 28 #[zV s, zV m] w fun e w' => e = .returned (zV (wt s m)) ∧ Drew w w' := by
  obtain ⟨s0, s1⟩ := hs
  obtain ⟨m0, m1⟩ := hm
  obtain ⟨x, hx⟩ : ∃ x, IntKind.u64.wrap s = x := ⟨_, rfl⟩
  obtain ⟨y, hy⟩ : ∃ y, IntKind.u64.wrap m = y := ⟨_, rfl⟩
  obtain ⟨d, hd⟩ : ∃ d, IntKind.u64.wrap (y - x) = d := ⟨_, rfl⟩
  have hde : d = m - s := by
    rw [← hd, ← hx, ← hy]
    simp only [IntKind.wrap_u64]
    omega
  obtain ⟨q, hq⟩ : ∃ q, min d 1099511627776 = q := ⟨_, rfl⟩
  have q0 : 0 ≤ q := by omega
  have q1 : q ≤ 1099511627776 := by omega
  have HX : Hid (∀ W, Bend W → Calls Tryd.prog 32 #[zV (-256 * q)] W fun e w' => e = .returned (zV (wt s m)) ∧ Drew W w') := fun W hW => by
    have := exp2_any (-256 * q) W hW ⟨by omega, by omega⟩
    rw [show -256 * q = 256 * dsN s m by unfold dsN; omega] at this ⊢
    exact this
  have HBw : Hid (Bend w) := hB
  clear hB hde
  go_enter Tryd.func28, Tryd.ntmps28
  go_wp2_with fail
  refine (HX.out _ HBw.out).mono ?_
  rintro e w1 ⟨rfl, hw1⟩
  go_wp2
  go_ret
  exact ⟨rfl, hw1⟩

set_option maxHeartbeats 4000000 in
set_option maxRecDepth 100000 in
theorem weights_any (p : Nat → Prop) (v : Value) (zs : List Int) (w : World) (hB : Bend w) (h : Rk .i64 p w v zs) (h1 : 1 ≤ zs.length) (h2 : zs.length ≤ 512) :
    Calls Tryd.prog 19 #[v] w fun e w' => e = .returned (.slice (some ⟨w.heap.size, 0, none⟩) zs.length zs.length) ∧ Fil .i64 2 w zs.length (wF zs) zs.length w' := by
  have HM : Hid (Unit → _) := fun (_ : Unit) => max_any p v zs w h h1
  obtain ⟨ao, ac, rfl, _⟩ := h.shape
  have HG : Hid (∀ i, I64 (zs.getD i 0)) := fun i => h.get i
  have HX : Hid (∀ j, j < zs.length → ∀ W, Bend W → Calls Tryd.prog 28 #[zV (zs.getD j 0), zV (tp zs zs.length)] W fun e w' => e = .returned (zV (wF zs j)) ∧ Drew W w') := fun j hj W hW => weight_any _ _ W hW (HG.out j) (tp_i64 HG.out _) (tp_le zs _ j hj)
  generalize hn : zs.length = n at *
  generalize tp zs n = t at *
  have HC1 : Hid _ := h.stay
  have HFil := Fil.start (k := .i64) (e := 2) w n (wF zs) (by omega)
  have hmk := run_mk ty64 n n (Nat.le_refl _) (by simp [kb]; omega) w
  have HBw : Hid (Bend w) := hB
  clear h hB HG
  generalize w.alloc (.cells ((List.replicate n (0 : Int)).map (Value.int .i64)).toArray 2) = W0 at *
  have HW0 : Hid _ := HFil
  clear HFil
  go_enter Tryd.func19, Tryd.ntmps19
  go_wp2_with fail
  refine (HM.out ()).mono ?_
  rintro e w1 ⟨rfl, hw1⟩
  have hw2 := hw1.symm
  subst hw2
  clear hw1 HM
  go_wp2
  clear hmk
  go_loopw [14] (fun iv wr => ∃ j : Nat, j ≤ n ∧ iv = zV j ∧ Hid (Fil .i64 2 w n (wF zs) j wr)) (fun iv _ => n - (RowKit.intOf iv).toNat)
  case atStart => exact ⟨0, Nat.zero_le _, rfl, HW0.out⟩
  case round =>
    obtain ⟨j, hj, rfl, HA⟩ := hrel
    clear HW0
    by_cases hlt : j < n
    · obtain ⟨b, off, rfl, hcell⟩ := HC1.out (by omega)
      have g1 := hcell wr HA.out.2 j hlt
      have hlt' : (j : Int) < (n : Int) := by omega
      have HCall : Hid (Unit → _) := fun (_ : Unit) => HX.out j hlt wr (HBw.out.fresh HA.out.2)
      clear hcell HX HC1
      generalize zs.getD j 0 = x at *
      go_wp2_with fail
      refine (HCall.out ()).mono ?_
      rintro e w3 ⟨rfl, d3, hw3⟩
      have HA3 : Hid (Fil .i64 2 w n (wF zs) j w3) := by show Fil _ _ _ _ _ _ _; rw [hw3]; exact HA.out.drew d3
      have f3 := own_frozen HA3.out.1 j
      have g3 := own_get HA3.out.1 j hlt
      have HXX : Hid (Fil .i64 2 w n (wF zs) (j + 1) (w3.setCell ⟨w.heap.size, j, none⟩ (.int .i64 (wF zs j)))) := HA3.out.next hlt
      clear HCall HA hw3 g1 HA3
      go_wp2
      go_roundw
      case rel => exact ⟨j + 1, hlt, by go_num, HXX.out⟩
      case measure => simp [RowKit.intOf]; omega
    · obtain rfl : j = n := by omega
      clear HX HC1
      go_wp2
      go_ret
      exact ⟨rfl, HA.out⟩

set_option maxHeartbeats 1000000 in
theorem Weights_any (p : Nat → Prop) (v : Value) (zs : List Int) (w : World) (hB : Bend w) (h : Rk .i64 p w v zs) :
    Calls Tryd.prog 9 #[v] w fun e w' => Gives .i64 2 (woL zs) (wE zs.length) w e w' := by
  have HS : Hid (Unit → _) := fun (_ : Unit) => seen_any p v zs w h
  by_cases hk : 1 ≤ zs.length ∧ zs.length ≤ 512
  · have HW : Hid (Unit → _) := fun (_ : Unit) => weights_any p v zs w hB h hk.1 hk.2
    rw [woL_ok hk.1 hk.2, wE_ok hk.1 hk.2]
    rw [decide_eq_true hk] at HS
    obtain ⟨ao, ac, rfl, _⟩ := h.shape
    clear h hB
    go_enter Tryd.func9, Tryd.ntmps9
    go_wp2_with fail
    refine (HS.out ()).mono ?_
    rintro e w1 ⟨rfl, hw1⟩
    have hw2 := hw1.symm
    subst hw2
    clear hw1 HS
    go_wp2_with fail
    refine (HW.out ()).mono ?_
    rintro e w1 ⟨rfl, hF⟩
    have HF : Hid _ := hF
    clear hF HW
    go_wp2
    go_ret2
    exact Fil.done HF.out 0
  · have HG : Hid (Gives .i64 2 [] 1 w (.returned (.tuple #[.slice none 0 0, zV 1])) w) := Gives.none _ _ _ _
    rw [woL_bad (by omega), wE_bad (by omega)]
    rw [decide_eq_false hk] at HS
    obtain ⟨ao, ac, rfl, _⟩ := h.shape
    clear h hB
    go_enter Tryd.func9, Tryd.ntmps9
    go_wp2_with fail
    refine (HS.out ()).mono ?_
    rintro e w1 ⟨rfl, hw1⟩
    have hw2 := hw1.symm
    subst hw2
    clear hw1 HS
    go_wp2
    go_ret2
    exact HG.out
end Go.Proofs.YtkolpdfakhlkeaaDoor
