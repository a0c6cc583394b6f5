/-
  Which of two is less: the document's Compare.
-/
import Derived.Test.YtagbjlkpmjbfnabDoorCp
import Derived.Test.YtagbjlkpmjbfnabDoorAh
import Derived.Test.YtagbjlkpmjbfnabDoorSb
namespace Go.Proofs.YtagbjlkpmjbfnabDoor
open Go.RowKit Ieee

theorem cmp_sign (sa sb : Bool) (za zb : Nat) (ha : sa = true → 0 < za) (hb : sb = true → 0 < zb) :
    cmp3 (if sa then -(za : Int) else za) (if sb then -(zb : Int) else zb) = if sa = sb then (if sa then -(cmp3 za zb) else cmp3 za zb) else if sa then -1 else 1 := by
  unfold cmp3
  cases sa <;> cases sb
  · simp
  · have := hb rfl
    simp only [Bool.false_eq_true, if_false, if_true]
    rw [if_neg (by omega), if_pos (by omega)]
  · have := ha rfl
    simp only [Bool.false_eq_true, if_false, if_true]
    rw [if_pos (by omega)]
    simp
  · simp only [if_true]
    rcases Int.lt_trichotomy (za : Int) (zb : Int) with g | g | g
    · rw [if_neg (by omega), if_pos (by omega), if_pos g]; rfl
    · rw [if_neg (by omega), if_neg (by omega), if_neg (by omega), if_neg (by omega)]; rfl
    · rw [if_pos (by omega), if_neg (by omega), if_pos g]
theorem cmp3_bound (a b : Int) : -1 ≤ cmp3 a b ∧ cmp3 a b ≤ 1 := by unfold cmp3; split <;> (try split) <;> omega
theorem vl_inf {b : Nat} (h : bE b = 255) : vl b = if bN b then -((szv 1 1000 : Nat) : Int) else ((szv 1 1000 : Nat) : Int) := by unfold vl; rw [if_pos h]
theorem vl_fin {b : Nat} (h : bE b ≠ 255) : vl b = if bN b then -((szv (mt b) (ex b) : Nat) : Int) else ((szv (mt b) (ex b) : Nat) : Int) := by unfold vl; rw [if_neg h]
theorem vl_zero {b : Nat} (h : bE b ≠ 255) (hz : mt b = 0) : vl b = if false then -((szv 0 (-149) : Nat) : Int) else ((szv 0 (-149) : Nat) : Int) := by
  rw [vl_fin h, hz]
  unfold szv
  simp
/-- The size of infinite ones, as a letter. -/
theorem inf_size : ∃ Z : Nat, 0 < Z ∧ (∀ b, bE b = 255 → vl b = if bN b then -(Z : Int) else (Z : Int)) ∧ szv 1 1000 = Z := ⟨szv 1 1000, Nat.mul_pos (by decide) (Nat.two_pow_pos _), fun _ h => vl_inf h, rfl⟩
theorem szv_pos {m : Nat} {e : Int} (h : m ≠ 0) : 0 < szv m e := Nat.mul_pos (by omega) (Nat.two_pow_pos _)

set_option maxHeartbeats 2000000 in
set_option maxRecDepth 100000 in
theorem refCmp_inf_inf (a b : Nat) (w : World) (ha : a < 4294967296) (hb : b < 4294967296) (ka : bE a = 255 ∧ bF a = 0) (kb : bE b = 255 ∧ bF b = 0) :
    Calls Tryd.prog 10 #[.int .u32 a, .int .u32 b] w fun e w' => e = .returned (.tuple #[.int .i64 (cmp3 (vl a) (vl b)), .bool true]) ∧ w = w' := by
  obtain ⟨Z, hZ0, hZ, hZe⟩ := inf_size
  have HA := show Hid _ from raw_inf a ha ka
  have HB := show Hid _ from raw_inf b hb kb
  have hv := (congr (congrArg cmp3 (hZ _ ka.1)) (hZ _ kb.1)).trans (cmp_sign (bN a) (bN b) Z Z (fun _ => hZ0) (fun _ => hZ0))
  have hc : ∀ X, Calls Tryd.prog 28 #[.int .i64 1, .int .i64 1000, .int .i64 1, .int .i64 1000] X fun r w' => r = .returned (.int .i64 (cmp3 Z Z)) ∧ X = w'   := fun X => by rw [← hZe]; exact ahead_any 1 1 1000 1000 X (by decide) (by decide) (by decide) (by decide) (by decide) (by decide)
  have HC := show Hid _ from hc
  obtain ⟨V, hV⟩ : ∃ V, V = cmp3 (vl a) (vl b) := ⟨_, rfl⟩
  rw [← hV] at hv ⊢
  have HV := show Hid _ from hv
  clear hv hc hV ka kb hZ hZe hZ0
  obtain ⟨hC1, hC2⟩ := cmp3_bound Z Z
  generalize cmp3 Z Z = C at *
  generalize bN a = N at *
  generalize bN b = N' at *
  cases N <;> cases N'
  · go_enter Tryd.func10, Tryd.ntmps10
    go_wp2_with fail
    refine (HA.out _).mono ?_
    rintro r X ⟨rfl, rfl⟩
    go_wp2_with fail
    refine (HB.out _).mono ?_
    rintro r X ⟨rfl, rfl⟩
    go_wp2_with fail
    refine (HC.out _).mono ?_
    rintro r X ⟨rfl, rfl⟩
    go_wp2
    go_ret2
    exact ⟨by rw [HV.out]; rfl, rfl⟩
  · go_enter Tryd.func10, Tryd.ntmps10
    go_wp2_with fail
    refine (HA.out _).mono ?_
    rintro r X ⟨rfl, rfl⟩
    go_wp2_with fail
    refine (HB.out _).mono ?_
    rintro r X ⟨rfl, rfl⟩
    go_wp2
    go_ret2
    exact ⟨by rw [HV.out]; rfl, rfl⟩
  · go_enter Tryd.func10, Tryd.ntmps10
    go_wp2_with fail
    refine (HA.out _).mono ?_
    rintro r X ⟨rfl, rfl⟩
    go_wp2_with fail
    refine (HB.out _).mono ?_
    rintro r X ⟨rfl, rfl⟩
    go_wp2
    go_ret2
    exact ⟨by rw [HV.out]; rfl, rfl⟩
  · go_enter Tryd.func10, Tryd.ntmps10
    go_wp2_with fail
    refine (HA.out _).mono ?_
    rintro r X ⟨rfl, rfl⟩
    go_wp2_with fail
    refine (HB.out _).mono ?_
    rintro r X ⟨rfl, rfl⟩
    go_wp2_with fail
    refine (HC.out _).mono ?_
    rintro r X ⟨rfl, rfl⟩
    go_wp2
    go_ret2
    exact ⟨by rw [HV.out]; rfl, rfl⟩

set_option maxHeartbeats 2000000 in
set_option maxRecDepth 100000 in
theorem refCmp_inf_z (a b : Nat) (w : World) (ha : a < 4294967296) (hb : b < 4294967296) (ka : bE a = 255 ∧ bF a = 0) (kb : bE b ≠ 255) (zb : mt b = 0) :
    Calls Tryd.prog 10 #[.int .u32 a, .int .u32 b] w fun e w' => e = .returned (.tuple #[.int .i64 (cmp3 (vl a) (vl b)), .bool true]) ∧ w = w' := by
  obtain ⟨Z, hZ0, hZ, hZe⟩ := inf_size
  have HA := show Hid _ from raw_inf a ha ka
  have HB := show Hid _ from raw_fin b hb kb
  have hv := (congr (congrArg cmp3 (hZ _ ka.1)) (vl_zero kb zb)).trans (cmp_sign (bN a) false Z (szv 0 (-149)) (fun _ => hZ0) (fun h => by cases h))
  have hc : ∀ X, Calls Tryd.prog 28 #[.int .i64 1, .int .i64 1000, .int .i64 0, .int .i64 (-149)] X fun r w' => r = .returned (.int .i64 (cmp3 Z (szv 0 (-149)))) ∧ X = w'   := fun X => by rw [← hZe]; exact ahead_any 1 0 1000 (-149) X (by decide) (by decide) (by decide) (by decide) (by decide) (by decide)
  have HC := show Hid _ from hc
  obtain ⟨V, hV⟩ : ∃ V, V = cmp3 (vl a) (vl b) := ⟨_, rfl⟩
  rw [← hV] at hv ⊢
  have HV := show Hid _ from hv
  rw [zb, zero_ex b zb kb] at HB
  rw [show ((0 : Nat) : Int) = 0 from rfl] at HB
  clear hv hc hV ka kb hZ hZe hZ0 zb
  obtain ⟨hC1, hC2⟩ := cmp3_bound Z (szv 0 (-149))
  generalize cmp3 Z (szv 0 (-149)) = C at *
  generalize bN a = N at *
  generalize bN b = N' at *
  cases N
  · go_enter Tryd.func10, Tryd.ntmps10
    go_wp2_with fail
    refine (HA.out _).mono ?_
    rintro r X ⟨rfl, rfl⟩
    go_wp2_with fail
    refine (HB.out _).mono ?_
    rintro r X ⟨rfl, rfl⟩
    go_wp2_with fail
    refine (HC.out _).mono ?_
    rintro r X ⟨rfl, rfl⟩
    go_wp2
    go_ret2
    exact ⟨by rw [HV.out]; rfl, rfl⟩
  · go_enter Tryd.func10, Tryd.ntmps10
    go_wp2_with fail
    refine (HA.out _).mono ?_
    rintro r X ⟨rfl, rfl⟩
    go_wp2_with fail
    refine (HB.out _).mono ?_
    rintro r X ⟨rfl, rfl⟩
    go_wp2
    go_ret2
    exact ⟨by rw [HV.out]; rfl, rfl⟩

set_option maxHeartbeats 2000000 in
set_option maxRecDepth 100000 in
theorem refCmp_inf_nz (a b : Nat) (w : World) (ha : a < 4294967296) (hb : b < 4294967296) (ka : bE a = 255 ∧ bF a = 0) (kb : bE b ≠ 255) (zb : mt b ≠ 0) :
    Calls Tryd.prog 10 #[.int .u32 a, .int .u32 b] w fun e w' => e = .returned (.tuple #[.int .i64 (cmp3 (vl a) (vl b)), .bool true]) ∧ w = w' := by
  obtain ⟨Z, hZ0, hZ, hZe⟩ := inf_size
  have HA := show Hid _ from raw_inf a ha ka
  have HB := show Hid _ from raw_fin b hb kb
  have hv := (congr (congrArg cmp3 (hZ _ ka.1)) (vl_fin kb)).trans (cmp_sign (bN a) (bN b) Z (szv (mt b) (ex b)) (fun _ => hZ0) (fun _ => szv_pos zb))
  have hc : ∀ X, Calls Tryd.prog 28 #[.int .i64 1, .int .i64 1000, .int .i64 (mt b), .int .i64 (ex b)] X fun r w' => r = .returned (.int .i64 (cmp3 Z (szv (mt b) (ex b)))) ∧ X = w'   := fun X => by rw [← hZe]; exact ahead_any 1 (mt b) 1000 (ex b) X (by decide) (mt_lt b) (by decide) (by decide) (ex_bounds b).1 (by have := (ex_bounds b).2; omega)
  have HC := show Hid _ from hc
  obtain ⟨V, hV⟩ : ∃ V, V = cmp3 (vl a) (vl b) := ⟨_, rfl⟩
  rw [← hV] at hv ⊢
  have HV := show Hid _ from hv
  have zb' : ((mt b : Int) == 0) = false := by simp; omega
  clear hv hc hV ka kb hZ hZe hZ0 zb
  obtain ⟨hC1, hC2⟩ := cmp3_bound Z (szv (mt b) (ex b))
  generalize cmp3 Z (szv (mt b) (ex b)) = C at *
  generalize bN a = N at *
  generalize bN b = N' at *
  generalize ex b = E' at *
  generalize mt b = M' at *
  cases N <;> cases N'
  · go_enter Tryd.func10, Tryd.ntmps10
    go_wp2_with fail
    refine (HA.out _).mono ?_
    rintro r X ⟨rfl, rfl⟩
    go_wp2_with fail
    refine (HB.out _).mono ?_
    rintro r X ⟨rfl, rfl⟩
    go_wp2_with fail
    refine (HC.out _).mono ?_
    rintro r X ⟨rfl, rfl⟩
    go_wp2
    go_ret2
    exact ⟨by rw [HV.out]; rfl, rfl⟩
  · go_enter Tryd.func10, Tryd.ntmps10
    go_wp2_with fail
    refine (HA.out _).mono ?_
    rintro r X ⟨rfl, rfl⟩
    go_wp2_with fail
    refine (HB.out _).mono ?_
    rintro r X ⟨rfl, rfl⟩
    go_wp2
    go_ret2
    exact ⟨by rw [HV.out]; rfl, rfl⟩
  · go_enter Tryd.func10, Tryd.ntmps10
    go_wp2_with fail
    refine (HA.out _).mono ?_
    rintro r X ⟨rfl, rfl⟩
    go_wp2_with fail
    refine (HB.out _).mono ?_
    rintro r X ⟨rfl, rfl⟩
    go_wp2
    go_ret2
    exact ⟨by rw [HV.out]; rfl, rfl⟩
  · go_enter Tryd.func10, Tryd.ntmps10
    go_wp2_with fail
    refine (HA.out _).mono ?_
    rintro r X ⟨rfl, rfl⟩
    go_wp2_with fail
    refine (HB.out _).mono ?_
    rintro r X ⟨rfl, rfl⟩
    go_wp2_with fail
    refine (HC.out _).mono ?_
    rintro r X ⟨rfl, rfl⟩
    go_wp2
    go_ret2
    exact ⟨by rw [HV.out]; rfl, rfl⟩

set_option maxHeartbeats 2000000 in
set_option maxRecDepth 100000 in
theorem refCmp_z_inf (a b : Nat) (w : World) (ha : a < 4294967296) (hb : b < 4294967296) (ka : bE a ≠ 255) (za : mt a = 0) (kb : bE b = 255 ∧ bF b = 0) :
    Calls Tryd.prog 10 #[.int .u32 a, .int .u32 b] w fun e w' => e = .returned (.tuple #[.int .i64 (cmp3 (vl a) (vl b)), .bool true]) ∧ w = w' := by
  obtain ⟨Z, hZ0, hZ, hZe⟩ := inf_size
  have HA := show Hid _ from raw_fin a ha ka
  have HB := show Hid _ from raw_inf b hb kb
  have hv := (congr (congrArg cmp3 (vl_zero ka za)) (hZ _ kb.1)).trans (cmp_sign false (bN b) (szv 0 (-149)) Z (fun h => by cases h) (fun _ => hZ0))
  have hc : ∀ X, Calls Tryd.prog 28 #[.int .i64 0, .int .i64 (-149), .int .i64 1, .int .i64 1000] X fun r w' => r = .returned (.int .i64 (cmp3 (szv 0 (-149)) Z)) ∧ X = w'   := fun X => by rw [← hZe]; exact ahead_any 0 1 (-149) 1000 X (by decide) (by decide) (by decide) (by decide) (by decide) (by decide)
  have HC := show Hid _ from hc
  obtain ⟨V, hV⟩ : ∃ V, V = cmp3 (vl a) (vl b) := ⟨_, rfl⟩
  rw [← hV] at hv ⊢
  have HV := show Hid _ from hv
  rw [za, zero_ex a za ka] at HA
  rw [show ((0 : Nat) : Int) = 0 from rfl] at HA
  clear hv hc hV ka kb hZ hZe hZ0 za
  obtain ⟨hC1, hC2⟩ := cmp3_bound (szv 0 (-149)) Z
  generalize cmp3 (szv 0 (-149)) Z = C at *
  generalize bN a = N at *
  generalize bN b = N' at *
  cases N'
  · go_enter Tryd.func10, Tryd.ntmps10
    go_wp2_with fail
    refine (HA.out _).mono ?_
    rintro r X ⟨rfl, rfl⟩
    go_wp2_with fail
    refine (HB.out _).mono ?_
    rintro r X ⟨rfl, rfl⟩
    go_wp2_with fail
    refine (HC.out _).mono ?_
    rintro r X ⟨rfl, rfl⟩
    go_wp2
    go_ret2
    exact ⟨by rw [HV.out]; rfl, rfl⟩
  · go_enter Tryd.func10, Tryd.ntmps10
    go_wp2_with fail
    refine (HA.out _).mono ?_
    rintro r X ⟨rfl, rfl⟩
    go_wp2_with fail
    refine (HB.out _).mono ?_
    rintro r X ⟨rfl, rfl⟩
    go_wp2
    go_ret2
    exact ⟨by rw [HV.out]; rfl, rfl⟩

set_option maxHeartbeats 2000000 in
set_option maxRecDepth 100000 in
theorem refCmp_z_z (a b : Nat) (w : World) (ha : a < 4294967296) (hb : b < 4294967296) (ka : bE a ≠ 255) (za : mt a = 0) (kb : bE b ≠ 255) (zb : mt b = 0) :
    Calls Tryd.prog 10 #[.int .u32 a, .int .u32 b] w fun e w' => e = .returned (.tuple #[.int .i64 (cmp3 (vl a) (vl b)), .bool true]) ∧ w = w' := by
  have HA := show Hid _ from raw_fin a ha ka
  have HB := show Hid _ from raw_fin b hb kb
  have hv := (congr (congrArg cmp3 (vl_zero ka za)) (vl_zero kb zb)).trans (cmp_sign false false (szv 0 (-149)) (szv 0 (-149)) (fun h => by cases h) (fun h => by cases h))
  have hc : ∀ X, Calls Tryd.prog 28 #[.int .i64 0, .int .i64 (-149), .int .i64 0, .int .i64 (-149)] X fun r w' => r = .returned (.int .i64 (cmp3 (szv 0 (-149)) (szv 0 (-149)))) ∧ X = w'   := fun X => by exact ahead_any 0 0 (-149) (-149) X (by decide) (by decide) (by decide) (by decide) (by decide) (by decide)
  have HC := show Hid _ from hc
  obtain ⟨V, hV⟩ : ∃ V, V = cmp3 (vl a) (vl b) := ⟨_, rfl⟩
  rw [← hV] at hv ⊢
  have HV := show Hid _ from hv
  rw [za, zero_ex a za ka] at HA
  rw [show ((0 : Nat) : Int) = 0 from rfl] at HA
  rw [zb, zero_ex b zb kb] at HB
  rw [show ((0 : Nat) : Int) = 0 from rfl] at HB
  clear hv hc hV ka kb za zb
  obtain ⟨hC1, hC2⟩ := cmp3_bound (szv 0 (-149)) (szv 0 (-149))
  generalize cmp3 (szv 0 (-149)) (szv 0 (-149)) = C at *
  generalize bN a = N at *
  generalize bN b = N' at *
  go_enter Tryd.func10, Tryd.ntmps10
  go_wp2_with fail
  refine (HA.out _).mono ?_
  rintro r X ⟨rfl, rfl⟩
  go_wp2_with fail
  refine (HB.out _).mono ?_
  rintro r X ⟨rfl, rfl⟩
  go_wp2_with fail
  refine (HC.out _).mono ?_
  rintro r X ⟨rfl, rfl⟩
  go_wp2
  go_ret2
  exact ⟨by rw [HV.out]; rfl, rfl⟩

set_option maxHeartbeats 2000000 in
set_option maxRecDepth 100000 in
theorem refCmp_z_nz (a b : Nat) (w : World) (ha : a < 4294967296) (hb : b < 4294967296) (ka : bE a ≠ 255) (za : mt a = 0) (kb : bE b ≠ 255) (zb : mt b ≠ 0) :
    Calls Tryd.prog 10 #[.int .u32 a, .int .u32 b] w fun e w' => e = .returned (.tuple #[.int .i64 (cmp3 (vl a) (vl b)), .bool true]) ∧ w = w' := by
  have HA := show Hid _ from raw_fin a ha ka
  have HB := show Hid _ from raw_fin b hb kb
  have hv := (congr (congrArg cmp3 (vl_zero ka za)) (vl_fin kb)).trans (cmp_sign false (bN b) (szv 0 (-149)) (szv (mt b) (ex b)) (fun h => by cases h) (fun _ => szv_pos zb))
  have hc : ∀ X, Calls Tryd.prog 28 #[.int .i64 0, .int .i64 (-149), .int .i64 (mt b), .int .i64 (ex b)] X fun r w' => r = .returned (.int .i64 (cmp3 (szv 0 (-149)) (szv (mt b) (ex b)))) ∧ X = w'   := fun X => by exact ahead_any 0 (mt b) (-149) (ex b) X (by decide) (mt_lt b) (by decide) (by decide) (ex_bounds b).1 (by have := (ex_bounds b).2; omega)
  have HC := show Hid _ from hc
  obtain ⟨V, hV⟩ : ∃ V, V = cmp3 (vl a) (vl b) := ⟨_, rfl⟩
  rw [← hV] at hv ⊢
  have HV := show Hid _ from hv
  rw [za, zero_ex a za ka] at HA
  rw [show ((0 : Nat) : Int) = 0 from rfl] at HA
  have zb' : ((mt b : Int) == 0) = false := by simp; omega
  clear hv hc hV ka kb za zb
  obtain ⟨hC1, hC2⟩ := cmp3_bound (szv 0 (-149)) (szv (mt b) (ex b))
  generalize cmp3 (szv 0 (-149)) (szv (mt b) (ex b)) = C at *
  generalize bN a = N at *
  generalize bN b = N' at *
  generalize ex b = E' at *
  generalize mt b = M' at *
  cases N'
  · go_enter Tryd.func10, Tryd.ntmps10
    go_wp2_with fail
    refine (HA.out _).mono ?_
    rintro r X ⟨rfl, rfl⟩
    go_wp2_with fail
    refine (HB.out _).mono ?_
    rintro r X ⟨rfl, rfl⟩
    go_wp2_with fail
    refine (HC.out _).mono ?_
    rintro r X ⟨rfl, rfl⟩
    go_wp2
    go_ret2
    exact ⟨by rw [HV.out]; rfl, rfl⟩
  · go_enter Tryd.func10, Tryd.ntmps10
    go_wp2_with fail
    refine (HA.out _).mono ?_
    rintro r X ⟨rfl, rfl⟩
    go_wp2_with fail
    refine (HB.out _).mono ?_
    rintro r X ⟨rfl, rfl⟩
    go_wp2
    go_ret2
    exact ⟨by rw [HV.out]; rfl, rfl⟩

set_option maxHeartbeats 2000000 in
set_option maxRecDepth 100000 in
theorem refCmp_nz_inf (a b : Nat) (w : World) (ha : a < 4294967296) (hb : b < 4294967296) (ka : bE a ≠ 255) (za : mt a ≠ 0) (kb : bE b = 255 ∧ bF b = 0) :
    Calls Tryd.prog 10 #[.int .u32 a, .int .u32 b] w fun e w' => e = .returned (.tuple #[.int .i64 (cmp3 (vl a) (vl b)), .bool true]) ∧ w = w' := by
  obtain ⟨Z, hZ0, hZ, hZe⟩ := inf_size
  have HA := show Hid _ from raw_fin a ha ka
  have HB := show Hid _ from raw_inf b hb kb
  have hv := (congr (congrArg cmp3 (vl_fin ka)) (hZ _ kb.1)).trans (cmp_sign (bN a) (bN b) (szv (mt a) (ex a)) Z (fun _ => szv_pos za) (fun _ => hZ0))
  have hc : ∀ X, Calls Tryd.prog 28 #[.int .i64 (mt a), .int .i64 (ex a), .int .i64 1, .int .i64 1000] X fun r w' => r = .returned (.int .i64 (cmp3 (szv (mt a) (ex a)) Z)) ∧ X = w'   := fun X => by rw [← hZe]; exact ahead_any (mt a) 1 (ex a) 1000 X (mt_lt a) (by decide) (ex_bounds a).1 (by have := (ex_bounds a).2; omega) (by decide) (by decide)
  have HC := show Hid _ from hc
  obtain ⟨V, hV⟩ : ∃ V, V = cmp3 (vl a) (vl b) := ⟨_, rfl⟩
  rw [← hV] at hv ⊢
  have HV := show Hid _ from hv
  have za' : ((mt a : Int) == 0) = false := by simp; omega
  clear hv hc hV ka kb hZ hZe hZ0 za
  obtain ⟨hC1, hC2⟩ := cmp3_bound (szv (mt a) (ex a)) Z
  generalize cmp3 (szv (mt a) (ex a)) Z = C at *
  generalize bN a = N at *
  generalize ex a = E at *
  generalize mt a = M at *
  generalize bN b = N' at *
  cases N <;> cases N'
  · go_enter Tryd.func10, Tryd.ntmps10
    go_wp2_with fail
    refine (HA.out _).mono ?_
    rintro r X ⟨rfl, rfl⟩
    go_wp2_with fail
    refine (HB.out _).mono ?_
    rintro r X ⟨rfl, rfl⟩
    go_wp2_with fail
    refine (HC.out _).mono ?_
    rintro r X ⟨rfl, rfl⟩
    go_wp2
    go_ret2
    exact ⟨by rw [HV.out]; rfl, rfl⟩
  · go_enter Tryd.func10, Tryd.ntmps10
    go_wp2_with fail
    refine (HA.out _).mono ?_
    rintro r X ⟨rfl, rfl⟩
    go_wp2_with fail
    refine (HB.out _).mono ?_
    rintro r X ⟨rfl, rfl⟩
    go_wp2
    go_ret2
    exact ⟨by rw [HV.out]; rfl, rfl⟩
  · go_enter Tryd.func10, Tryd.ntmps10
    go_wp2_with fail
    refine (HA.out _).mono ?_
    rintro r X ⟨rfl, rfl⟩
    go_wp2_with fail
    refine (HB.out _).mono ?_
    rintro r X ⟨rfl, rfl⟩
    go_wp2
    go_ret2
    exact ⟨by rw [HV.out]; rfl, rfl⟩
  · go_enter Tryd.func10, Tryd.ntmps10
    go_wp2_with fail
    refine (HA.out _).mono ?_
    rintro r X ⟨rfl, rfl⟩
    go_wp2_with fail
    refine (HB.out _).mono ?_
    rintro r X ⟨rfl, rfl⟩
    go_wp2_with fail
    refine (HC.out _).mono ?_
    rintro r X ⟨rfl, rfl⟩
    go_wp2
    go_ret2
    exact ⟨by rw [HV.out]; rfl, rfl⟩

set_option maxHeartbeats 2000000 in
set_option maxRecDepth 100000 in
theorem refCmp_nz_z (a b : Nat) (w : World) (ha : a < 4294967296) (hb : b < 4294967296) (ka : bE a ≠ 255) (za : mt a ≠ 0) (kb : bE b ≠ 255) (zb : mt b = 0) :
    Calls Tryd.prog 10 #[.int .u32 a, .int .u32 b] w fun e w' => e = .returned (.tuple #[.int .i64 (cmp3 (vl a) (vl b)), .bool true]) ∧ w = w' := by
  have HA := show Hid _ from raw_fin a ha ka
  have HB := show Hid _ from raw_fin b hb kb
  have hv := (congr (congrArg cmp3 (vl_fin ka)) (vl_zero kb zb)).trans (cmp_sign (bN a) false (szv (mt a) (ex a)) (szv 0 (-149)) (fun _ => szv_pos za) (fun h => by cases h))
  have hc : ∀ X, Calls Tryd.prog 28 #[.int .i64 (mt a), .int .i64 (ex a), .int .i64 0, .int .i64 (-149)] X fun r w' => r = .returned (.int .i64 (cmp3 (szv (mt a) (ex a)) (szv 0 (-149)))) ∧ X = w'   := fun X => by exact ahead_any (mt a) 0 (ex a) (-149) X (mt_lt a) (by decide) (ex_bounds a).1 (by have := (ex_bounds a).2; omega) (by decide) (by decide)
  have HC := show Hid _ from hc
  obtain ⟨V, hV⟩ : ∃ V, V = cmp3 (vl a) (vl b) := ⟨_, rfl⟩
  rw [← hV] at hv ⊢
  have HV := show Hid _ from hv
  have za' : ((mt a : Int) == 0) = false := by simp; omega
  rw [zb, zero_ex b zb kb] at HB
  rw [show ((0 : Nat) : Int) = 0 from rfl] at HB
  clear hv hc hV ka kb za zb
  obtain ⟨hC1, hC2⟩ := cmp3_bound (szv (mt a) (ex a)) (szv 0 (-149))
  generalize cmp3 (szv (mt a) (ex a)) (szv 0 (-149)) = C at *
  generalize bN a = N at *
  generalize ex a = E at *
  generalize mt a = M at *
  generalize bN b = N' at *
  cases N
  · go_enter Tryd.func10, Tryd.ntmps10
    go_wp2_with fail
    refine (HA.out _).mono ?_
    rintro r X ⟨rfl, rfl⟩
    go_wp2_with fail
    refine (HB.out _).mono ?_
    rintro r X ⟨rfl, rfl⟩
    go_wp2_with fail
    refine (HC.out _).mono ?_
    rintro r X ⟨rfl, rfl⟩
    go_wp2
    go_ret2
    exact ⟨by rw [HV.out]; rfl, rfl⟩
  · go_enter Tryd.func10, Tryd.ntmps10
    go_wp2_with fail
    refine (HA.out _).mono ?_
    rintro r X ⟨rfl, rfl⟩
    go_wp2_with fail
    refine (HB.out _).mono ?_
    rintro r X ⟨rfl, rfl⟩
    go_wp2
    go_ret2
    exact ⟨by rw [HV.out]; rfl, rfl⟩

set_option maxHeartbeats 2000000 in
set_option maxRecDepth 100000 in
theorem refCmp_nz_nz (a b : Nat) (w : World) (ha : a < 4294967296) (hb : b < 4294967296) (ka : bE a ≠ 255) (za : mt a ≠ 0) (kb : bE b ≠ 255) (zb : mt b ≠ 0) :
    Calls Tryd.prog 10 #[.int .u32 a, .int .u32 b] w fun e w' => e = .returned (.tuple #[.int .i64 (cmp3 (vl a) (vl b)), .bool true]) ∧ w = w' := by
  have HA := show Hid _ from raw_fin a ha ka
  have HB := show Hid _ from raw_fin b hb kb
  have hv := (congr (congrArg cmp3 (vl_fin ka)) (vl_fin kb)).trans (cmp_sign (bN a) (bN b) (szv (mt a) (ex a)) (szv (mt b) (ex b)) (fun _ => szv_pos za) (fun _ => szv_pos zb))
  have hc : ∀ X, Calls Tryd.prog 28 #[.int .i64 (mt a), .int .i64 (ex a), .int .i64 (mt b), .int .i64 (ex b)] X fun r w' => r = .returned (.int .i64 (cmp3 (szv (mt a) (ex a)) (szv (mt b) (ex b)))) ∧ X = w'   := fun X => by exact ahead_any (mt a) (mt b) (ex a) (ex b) X (mt_lt a) (mt_lt b) (ex_bounds a).1 (by have := (ex_bounds a).2; omega) (ex_bounds b).1 (by have := (ex_bounds b).2; omega)
  have HC := show Hid _ from hc
  obtain ⟨V, hV⟩ : ∃ V, V = cmp3 (vl a) (vl b) := ⟨_, rfl⟩
  rw [← hV] at hv ⊢
  have HV := show Hid _ from hv
  have za' : ((mt a : Int) == 0) = false := by simp; omega
  have zb' : ((mt b : Int) == 0) = false := by simp; omega
  clear hv hc hV ka kb za zb
  obtain ⟨hC1, hC2⟩ := cmp3_bound (szv (mt a) (ex a)) (szv (mt b) (ex b))
  generalize cmp3 (szv (mt a) (ex a)) (szv (mt b) (ex b)) = C at *
  generalize bN a = N at *
  generalize ex a = E at *
  generalize mt a = M at *
  generalize bN b = N' at *
  generalize ex b = E' at *
  generalize mt b = M' at *
  cases N <;> cases N'
  · go_enter Tryd.func10, Tryd.ntmps10
    go_wp2_with fail
    refine (HA.out _).mono ?_
    rintro r X ⟨rfl, rfl⟩
    go_wp2_with fail
    refine (HB.out _).mono ?_
    rintro r X ⟨rfl, rfl⟩
    go_wp2_with fail
    refine (HC.out _).mono ?_
    rintro r X ⟨rfl, rfl⟩
    go_wp2
    go_ret2
    exact ⟨by rw [HV.out]; rfl, rfl⟩
  · go_enter Tryd.func10, Tryd.ntmps10
    go_wp2_with fail
    refine (HA.out _).mono ?_
    rintro r X ⟨rfl, rfl⟩
    go_wp2_with fail
    refine (HB.out _).mono ?_
    rintro r X ⟨rfl, rfl⟩
    go_wp2
    go_ret2
    exact ⟨by rw [HV.out]; rfl, rfl⟩
  · go_enter Tryd.func10, Tryd.ntmps10
    go_wp2_with fail
    refine (HA.out _).mono ?_
    rintro r X ⟨rfl, rfl⟩
    go_wp2_with fail
    refine (HB.out _).mono ?_
    rintro r X ⟨rfl, rfl⟩
    go_wp2
    go_ret2
    exact ⟨by rw [HV.out]; rfl, rfl⟩
  · go_enter Tryd.func10, Tryd.ntmps10
    go_wp2_with fail
    refine (HA.out _).mono ?_
    rintro r X ⟨rfl, rfl⟩
    go_wp2_with fail
    refine (HB.out _).mono ?_
    rintro r X ⟨rfl, rfl⟩
    go_wp2_with fail
    refine (HC.out _).mono ?_
    rintro r X ⟨rfl, rfl⟩
    go_wp2
    go_ret2
    exact ⟨by rw [HV.out]; rfl, rfl⟩

set_option maxHeartbeats 2000000 in
theorem refCompare_any (a b : Nat) (w : World) (ha : a < 4294967296) (hb : b < 4294967296) :
    Calls Tryd.prog 10 #[.int .u32 a, .int .u32 b] w fun e w' => e = .returned (.tuple #[.int .i64 (cmpC a b), .bool (okC a b)]) ∧ w = w' := by
  unfold cmpC okC
  by_cases na : bE a = 255 ∧ bF a ≠ 0
  · rw [decide_eq_true na, Bool.true_or, Bool.not_true, if_neg (by simp)]
    have HA := show Hid _ from raw_none a ha na
    have HB := show Hid _ from fun X => raw_any b X hb
    unfold rawV at HB
    clear na
    generalize (kd b : Int) = K at *
    generalize sg b = S at *
    generalize mt b = M at *
    generalize ex b = E at *
    go_enter Tryd.func10, Tryd.ntmps10
    go_wp2_with fail
    refine (HA.out _).mono ?_
    rintro r X ⟨rfl, rfl⟩
    go_wp2_with fail
    refine (HB.out _).mono ?_
    rintro r X ⟨rfl, rfl⟩
    go_wp2
    go_ret2
    exact ⟨rfl, rfl⟩
  · rw [decide_eq_false na]
    by_cases nb : bE b = 255 ∧ bF b ≠ 0
    · rw [decide_eq_true nb, Bool.or_true, Bool.not_true, if_neg (by simp)]
      have HB := show Hid _ from raw_none b hb nb
      rcases kinds a with ka | ka | ka
      · exact absurd ka na
      · have HA := show Hid _ from raw_inf a ha ka
        clear na nb ka
        generalize bN a = S at *
        go_enter Tryd.func10, Tryd.ntmps10
        go_wp2_with fail
        refine (HA.out _).mono ?_
        rintro r X ⟨rfl, rfl⟩
        go_wp2_with fail
        refine (HB.out _).mono ?_
        rintro r X ⟨rfl, rfl⟩
        go_wp2
        go_ret2
        exact ⟨rfl, rfl⟩
      · have HA := show Hid _ from raw_fin a ha ka
        clear na nb ka
        generalize bN a = S at *
        generalize mt a = M at *
        generalize ex a = E at *
        go_enter Tryd.func10, Tryd.ntmps10
        go_wp2_with fail
        refine (HA.out _).mono ?_
        rintro r X ⟨rfl, rfl⟩
        go_wp2_with fail
        refine (HB.out _).mono ?_
        rintro r X ⟨rfl, rfl⟩
        go_wp2
        go_ret2
        exact ⟨rfl, rfl⟩
    · rw [decide_eq_false nb, Bool.or_false, Bool.not_false, if_pos rfl]
      rcases kinds a with ka | ka | ka
      · exact absurd ka na
      · rcases kinds b with kb | kb | kb
        · exact absurd kb nb
        · exact refCmp_inf_inf a b w ha hb ka kb
        · by_cases zb : mt b = 0
          · exact refCmp_inf_z a b w ha hb ka kb zb
          · exact refCmp_inf_nz a b w ha hb ka kb zb
      · by_cases za : mt a = 0
        · rcases kinds b with kb | kb | kb
          · exact absurd kb nb
          · exact refCmp_z_inf a b w ha hb ka za kb
          · by_cases zb : mt b = 0
            · exact refCmp_z_z a b w ha hb ka za kb zb
            · exact refCmp_z_nz a b w ha hb ka za kb zb
        · rcases kinds b with kb | kb | kb
          · exact absurd kb nb
          · exact refCmp_nz_inf a b w ha hb ka za kb
          · by_cases zb : mt b = 0
            · exact refCmp_nz_z a b w ha hb ka za kb zb
            · exact refCmp_nz_nz a b w ha hb ka za kb zb

end Go.Proofs.YtagbjlkpmjbfnabDoor
