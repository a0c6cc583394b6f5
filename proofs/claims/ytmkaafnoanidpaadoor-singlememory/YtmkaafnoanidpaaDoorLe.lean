/-
  math.Ldexp and 'nearest' of the program.
-/
import Derived.Test.YtmkaafnoanidpaaDoorLd
namespace Go.Proofs.YtmkaafnoanidpaaDoor
open Go.RowKit Ieee

set_option maxHeartbeats 400000 in
theorem isInf_any (s : Bool) (E F : Nat) (w : World) (h : Mid E F) :
    Calls Tryd.prog 62 #[.float .f64 (dbl s E F), .int .i64 0] w fun e w' => e = .returned (.bool false) ∧ w = w' := by
  have HA := show Hid _ from fun X => abs64_any s E F X h
  have h1 : (FloatKind.f64.format.order (dbl false E F) 9218868437227405311 == some .gt) = false := order_max h
  generalize dbl s E F = x at *
  generalize dbl false E F = y at *
  go_enter Tryd.func62, Tryd.ntmps62
  go_wp2_with fail
  refine (HA.out _).mono ?_
  rintro r X ⟨rfl, rfl⟩
  go_wp2
  go_ret
  exact ⟨rfl, rfl⟩
set_option maxHeartbeats 400000 in
theorem isNaN64_any (s : Bool) (E F : Nat) (w : World) (h : Mid E F) :
    Calls Tryd.prog 63 #[.float .f64 (dbl s E F)] w fun e w' => e = .returned (.bool false) ∧ w = w' := by
  have h1 : FloatKind.f64.format.order (dbl s E F) (dbl s E F) = some .eq := order_self h
  generalize dbl s E F = x at *
  go_enter Tryd.func63, Tryd.ntmps63
  go_wp2
  go_ret
  exact ⟨rfl, rfl⟩
set_option maxHeartbeats 400000 in
theorem normalize_any (s : Bool) (E F : Nat) (w : World) (h : Mid E F) :
    Calls Tryd.prog 64 #[.float .f64 (dbl s E F)] w fun e w' => e = .returned (.tuple #[.float .f64 (dbl s E F), .int .i64 0]) ∧ w = w' := by
  have HA := show Hid _ from fun X => abs64_any s E F X h
  have h1 : (FloatKind.f64.format.order (dbl false E F) 4503599627370496 == some .lt) = false := order_small h
  generalize dbl s E F = x at *
  generalize dbl false E F = y at *
  go_enter Tryd.func64, Tryd.ntmps64
  go_wp2_with fail
  refine (HA.out _).mono ?_
  rintro r X ⟨rfl, rfl⟩
  go_wp2
  go_ret2
  exact ⟨rfl, rfl⟩

theorem mul_one64 (s : Bool) (E F : Nat) (h : Mid E F) : floatBits .mul .f64 4607182418800017408 (dbl s E F) = some (dbl s E F) := by
  obtain ⟨c1, c2, c3, c4, c5⟩ := dbl_consts
  have hE := h.1
  have hE2 := h.2.1
  show double.mul 4607182418800017408 (dbl s E F) = some (dbl s E F)
  have h1 : double.read 4607182418800017408 = .number false (4503599627370496 + 0) ((1023 : Int) - 1075) := dbl_read false 1023 0 (by decide) (by decide) (by decide)
  unfold Format.mul
  rw [h1, h.read]
  show some (double.nearest (false ^^ s) ((4503599627370496 + 0) * (4503599627370496 + F)) ((1023 : Int) - 1075 + ((E : Int) - 1075))) = _
  congr 1
  rw [Bool.false_xor, nearest_rung]
  have hsh := rung_shift double (4503599627370496 + F) 52 ((E : Int) - 1075)
  rw [show (4503599627370496 + 0) * (4503599627370496 + F) = (4503599627370496 + F) * 2 ^ 52 by rw [Nat.mul_comm], show (1023 : Int) - 1075 + ((E : Int) - 1075) = (E : Int) - 1075 - ((52 : Nat) : Int) by omega, hsh]
  have hh := rung_high double E F (by omega) (by rw [c2]; exact h.2.2) (by rw [c2, c3]; have := h.2.2; omega)
  rw [c2, c4] at hh
  rw [show (E : Int) - 1075 = -1074 + ((E - 1 : Nat) : Int) by omega, hh, dbl_word]

theorem dbl_exp (s : Bool) {E F : Nat} (hF : F < 4503599627370496) : ((dbl s E F : Nat) : Int) / 4503599627370496 = (((if s then 2048 else 0) + E : Nat) : Int) := by
  unfold dbl
  cases s <;> simp only [Bool.false_eq_true, if_false, if_true] <;> omega

set_option maxHeartbeats 1000000 in
theorem ldexp_any (s : Bool) (E F : Nat) (k : Int) (E' : Nat) (w : World) (h : Mid E F) (h' : Mid E' F) (hk : (E' : Int) = E + k) :
    Calls Tryd.prog 61 #[.float .f64 (dbl s E F), .int .i64 k] w fun e w' => e = .returned (.float .f64 (dbl s E' F)) ∧ w = w' := by
  have HI := show Hid _ from fun X => isInf_any s E F X h
  have HN := show Hid _ from fun X => isNaN64_any s E F X h
  have HM := show Hid _ from fun X => normalize_any s E F X h
  have hz : (FloatKind.f64.format.order (dbl s E F) 0 == some .eq) = false := order_zero h
  have r1 := run_to64 (dbl s E F) w
  have r2 := run_from64 (dbl s E' F) w
  have r3 := run_float_arith (P := Tryd.prog) w .mul 67 .f64 4607182418800017408 (dbl s E' F) (dbl s E' F) (mul_one64 s E' F h')
  have hE := h.1
  have hE2 := h.2.1
  have hE3 := h'.1
  have hE4 := h'.2.1
  have b1 := dbl_exp s (E := E) (F := F) h.2.2
  have b2 := dbl_clear s (E := E) (F := F) (by omega) h.2.2
  have b3 := dbl_or s (E := E') (F := F) (by omega) h.2.2
  have b4 : bits .and .i64 (((if s then 2048 else 0) + E : Nat) : Int) 2047 = (E : Int) := by
    have := and_mask (((if s then 2048 else 0) + E : Nat) : Int) 11 (by decide)
    rw [show ((2 ^ 11 - 1 : Nat) : Int) = 2047 from rfl] at this
    rw [this]
    cases s <;> simp only [Bool.false_eq_true, if_false, if_true] <;> omega
  have hxl := dbl_lt s (E := E) (F := F) (by omega) h.2.2
  have hsl : (if s = true then 2048 else 0) + E ≤ 4095 := by cases s <;> simp only [Bool.false_eq_true, if_false, if_true] <;> omega
  generalize dbl s E F = x at *
  generalize dbl s E' F = y at *
  generalize dbl s 0 F = z at *
  generalize (if s = true then 2048 else 0) + E = t at *
  obtain ⟨u, hu⟩ : ∃ u, u = E' * 4503599627370496 := ⟨_, rfl⟩
  rw [← hu] at b3
  have b5 : IntKind.u64.wrap ((E' : Int) * 4503599627370496) = (u : Int) := by rw [IntKind.wrap_u64, hu]; omega
  have b6 : k + ((E : Int) - 1023) = (E' : Int) - 1023 := by omega
  have b7 : (E' : Int) - 1023 + 1023 = (E' : Int) := by omega
  have hk1 : -2000 ≤ k := by omega
  have hk2 : k ≤ 2000 := by omega
  clear h h' hu hk
  go_enter Tryd.func61, Tryd.ntmps61
  go_wp2_with (first | (go_at_call 62; refine (HI.out _).mono ?_; rintro r X ⟨rfl, rfl⟩) | (go_at_call 63; refine (HN.out _).mono ?_; rintro r X ⟨rfl, rfl⟩) | (go_at_call 64; refine (HM.out _).mono ?_; rintro r X ⟨rfl, rfl⟩))
  go_ret
  exact ⟨rfl, rfl⟩

set_option maxHeartbeats 400000 in
theorem Ldexp_any (s : Bool) (E F : Nat) (k : Int) (E' : Nat) (w : World) (h : Mid E F) (h' : Mid E' F) (hk : (E' : Int) = E + k) :
    Calls Tryd.prog 59 #[.float .f64 (dbl s E F), .int .i64 k] w fun e w' => e = .returned (.float .f64 (dbl s E' F)) ∧ w = w' := by
  have HL := show Hid _ from fun X => ldexp_any s E F k E' X h h' hk
  generalize dbl s E F = x at *
  generalize dbl s E' F = y at *
  go_enter Tryd.func59, Tryd.ntmps59
  go_wp2_with (first | (go_at_call 61; refine (HL.out _).mono ?_; rintro r X ⟨rfl, rfl⟩))
  go_ret
  exact ⟨rfl, rfl⟩

theorem zero_read (s : Bool) : double.read (dbl s 0 0) = .number s 0 (-1074) := by
  obtain ⟨c1, c2, c3, c4, c5⟩ := dbl_consts
  have hp := word_parts double s (r := 0) (by rw [c1]; decide)
  have hw : double.word s 0 = dbl s 0 0 := dbl_word s 0 0
  rw [hw] at hp
  rw [read_rung, hp.1, hp.2, c2, c4, if_pos (by decide)]
theorem order_zero_zero (s : Bool) : (double.order (dbl s 0 0) 0 == some .eq) = true := by
  have h0 : double.read 0 = .number false 0 (-1074) := by
    rw [read_rung]; rfl
  rw [order_number double (zero_read s) h0 (-1074) (by omega) (by omega), compare_int]
  cases s <;> rfl
set_option maxHeartbeats 400000 in
theorem ldexp_zero (s : Bool) (k : Int) (w : World) :
    Calls Tryd.prog 61 #[.float .f64 (dbl s 0 0), .int .i64 k] w fun e w' => e = .returned (.float .f64 (dbl s 0 0)) ∧ w = w' := by
  have hz : (FloatKind.f64.format.order (dbl s 0 0) 0 == some .eq) = true := order_zero_zero s
  generalize dbl s 0 0 = x at *
  go_enter Tryd.func61, Tryd.ntmps61
  go_wp2
  go_ret
  exact ⟨rfl, rfl⟩
set_option maxHeartbeats 400000 in
theorem Ldexp_zero (s : Bool) (k : Int) (w : World) :
    Calls Tryd.prog 59 #[.float .f64 (dbl s 0 0), .int .i64 k] w fun e w' => e = .returned (.float .f64 (dbl s 0 0)) ∧ w = w' := by
  have HL := show Hid _ from fun X => ldexp_zero s k X
  generalize dbl s 0 0 = x at *
  go_enter Tryd.func59, Tryd.ntmps59
  go_wp2_with (first | (go_at_call 61; refine (HL.out _).mono ?_; rintro r X ⟨rfl, rfl⟩))
  go_ret
  exact ⟨rfl, rfl⟩

/-- The whole number nearest to m * 2^t. -/
def rnI (m : Nat) (t : Int) : Nat := rne (m * 2 ^ t.toNat) (-t).toNat
theorem rnI_shift (m k : Nat) (t : Int) : rnI (m * 2 ^ k) (t - k) = rnI m t := by
  unfold rnI
  rcases Int.le_total t 0 with h1 | h1
  · rw [show (t - (k : Int)).toNat = 0 by omega, show t.toNat = 0 by omega, show (-(t - (k : Int))).toNat = (-t).toNat + k by omega, Nat.pow_zero, Nat.mul_one, Nat.mul_one, rne_shift]
  · rw [show (-t).toNat = 0 by omega, rne_zero]
    rcases Int.le_total (t - k) 0 with h2 | h2
    · rw [show (t - (k : Int)).toNat = 0 by omega, Nat.pow_zero, Nat.mul_one]
      have : k = t.toNat + (-(t - (k : Int))).toNat := by omega
      generalize t.toNat = a at *
      generalize (-(t - (k : Int))).toNat = b at *
      subst this
      have hs := rne_shift (m * 2 ^ a) 0 b
      rw [Nat.zero_add, rne_zero] at hs
      rw [Nat.pow_add, ← Nat.mul_assoc, hs]
    · rw [show (-(t - (k : Int))).toNat = 0 by omega, rne_zero, Nat.mul_assoc, ← Nat.pow_add]
      congr 2
      omega
theorem rnI_zero (t : Int) : rnI 0 t = 0 := by
  unfold rnI
  rw [Nat.zero_mul]
  have hp := Nat.two_pow_pos (-t).toNat
  exact rne_small 0 _ (by omega)

/-- math.RoundToEven of a number. -/
theorem run_round (x : Nat) (s : Bool) (m : Nat) (i : Int) (hx : double.read x = .number s m i) (w : World) : (callFunc 58 #[.float .f64 x]).run Tryd.prog w = .ok (.value (.float .f64 (double.nearest s (rnI m i) 0))) w := by
  rw [run_callFunc_extern (e := Extern.MathFloor.toIntegral "math.RoundToEven" .even) Tryd.func58 (by kernel_rfl) (by kernel_rfl) (by kernel_rfl) (by kernel_rfl)]
  have hd : FloatKind.f64.decode x = .number s m i := hx
  have hv : FloatKind.f64.encode ((Datum.number s m i).integral .even) = double.nearest s (rnI m i) 0 := by
    show double.nearest s (Toward.even.cut s (m <<< i.toNat) (-i).toNat) 0 = _
    rw [cut_even, Nat.shiftLeft_eq]
    rfl
  have e : Extern.MathFloor.toIntegral "math.RoundToEven" .even #[.float .f64 x] = pure (.float .f64 (double.nearest s (rnI m i) 0)) := by
    show Extern.MathFloor.toIntegral.match_1 (motive := fun _ => Sem Value) (FloatKind.f64.decode x) _ _ = _
    rw [hd]
    show (pure (Value.float .f64 (FloatKind.f64.encode ((Datum.number s m i).integral .even))) : Sem Value) = _
    rw [hv]
  rw [e]
  rfl

/-- A single as a number of 64 bits. -/
theorem to64 (b : Nat) (hb : b < 4294967296) (k : bE b ≠ 255) (h0 : mt b ≠ 0) :
    ∃ (j E F : Nat), (mt b).log2 + j = 52 ∧ (E : Int) = ex b + (mt b).log2 + 1023 ∧ mt b * 2 ^ j = 4503599627370496 + F ∧ Mid E F ∧ 874 ≤ E ∧ E ≤ 1150 ∧ floatToFloatBits .f32 b .f64 = some (dbl (bN b) E F) := by
  have hm := mt_lt b
  obtain ⟨e1, e2⟩ := ex_bounds b
  have hl : (mt b).log2 < 24 := (Nat.log2_lt h0).2 hm
  obtain ⟨j, E, F, h1, h2, h3, h4, h5⟩ := dbl_nearest (bN b) (mt b) (ex b) h0 (by omega) (by omega) (by omega)
  have hM : Mid E F := ⟨by omega, by omega, h4⟩
  refine ⟨j, E, F, h1, h2, h3, hM, by omega, by omega, ?_⟩
  unfold floatToFloatBits
  rw [if_neg (by decide)]
  have hd : FloatKind.f32.decode b = .number (bN b) (mt b) (ex b) := read_fin b hb k
  have he : FloatKind.f64.encode (.number (bN b) (mt b) (ex b)) = dbl (bN b) E F := h5
  have hr : FloatKind.f64.decode (dbl (bN b) E F) = .number (bN b) (4503599627370496 + F) ((E : Int) - 1075) := hM.read
  simp only [hd, he, hr]
  rfl
theorem to64_zero (b : Nat) (hb : b < 4294967296) (k : bE b ≠ 255) (h0 : mt b = 0) : floatToFloatBits .f32 b .f64 = some (dbl (bN b) 0 0) := by
  unfold floatToFloatBits
  rw [if_neg (by decide)]
  have hd : FloatKind.f32.decode b = .number (bN b) 0 (ex b) := by rw [← h0]; exact read_fin b hb k
  have he : FloatKind.f64.encode (.number (bN b) 0 (ex b)) = dbl (bN b) 0 0 := by
    show double.nearest (bN b) 0 (ex b) = _
    rw [nearest_zero]
    exact dbl_word (bN b) 0 0
  have hr : FloatKind.f64.decode (dbl (bN b) 0 0) = .number (bN b) 0 (-1074) := zero_read (bN b)
  simp only [hd, he, hr]
  rfl

/-- What the program's 'nearest' says. -/
def nstB (b : Nat) (scale : Int) : Nat := double.nearest (bN b) (rnI (mt b) (ex b + scale)) 0

set_option maxHeartbeats 800000 in
theorem nearest_any (b : Nat) (scale : Int) (w : World) (hb : b < 4294967296) (k : bE b ≠ 255) (hs : -64 ≤ scale ∧ scale ≤ 64) :
    Calls Tryd.prog 49 #[.int .u32 b, .int .i64 scale] w fun e w' => e = .returned (.float .f64 (nstB b scale)) ∧ w = w' := by
  unfold nstB
  by_cases h0 : mt b = 0
  · rw [h0, rnI_zero]
    have hv := to64_zero b hb k h0
    have hr := run_round (dbl (bN b) 0 0) (bN b) 0 (-1074) (zero_read _) w
    rw [rnI_zero] at hr
    have HL := show Hid _ from fun X => Ldexp_zero (bN b) scale X
    have hc := run_convert_float_float (P := Tryd.prog) w 50 67 .f32 .f64 b (dbl (bN b) 0 0) (by rw [Tryd.underlying50]; rfl) Tryd.underlying67 hv
    clear hv
    generalize double.nearest (bN b) 0 0 = V at *
    generalize dbl (bN b) 0 0 = x at *
    go_enter Tryd.func49, Tryd.ntmps49
    go_wp2_with (first | (go_at_call 26; refine (number_any _ _).mono ?_; rintro e w' ⟨rfl, rfl⟩) | (go_at_call 59; refine (HL.out _).mono ?_; rintro r X ⟨rfl, rfl⟩))
    go_ret
    exact ⟨rfl, rfl⟩
  · obtain ⟨j, E, F, h1, h2, h3, hM, h4, h5, hv⟩ := to64 b hb k h0
    obtain ⟨E', hE'⟩ : ∃ E' : Nat, (E' : Int) = E + scale := ⟨((E : Int) + scale).toNat, by omega⟩
    have hM' : Mid E' F := ⟨by omega, by omega, hM.2.2⟩
    have hr := run_round (dbl (bN b) E' F) (bN b) _ _ hM'.read w
    have hi : rnI (4503599627370496 + F) ((E' : Int) - 1075) = rnI (mt b) (ex b + scale) := by
      rw [← h3, show (E' : Int) - 1075 = ex b + scale - (j : Int) by omega, rnI_shift]
    rw [hi] at hr
    have HL := show Hid _ from fun X => Ldexp_any (bN b) E F scale E' X hM hM' hE'
    have hc := run_convert_float_float (P := Tryd.prog) w 50 67 .f32 .f64 b (dbl (bN b) E F) (by rw [Tryd.underlying50]; rfl) Tryd.underlying67 hv
    clear hv hi
    generalize double.nearest (bN b) (rnI (mt b) (ex b + scale)) 0 = V at *
    generalize dbl (bN b) E F = x at *
    generalize dbl (bN b) E' F = y at *
    go_enter Tryd.func49, Tryd.ntmps49
    go_wp2_with (first | (go_at_call 26; refine (number_any _ _).mono ?_; rintro e w' ⟨rfl, rfl⟩) | (go_at_call 59; refine (HL.out _).mono ?_; rintro r X ⟨rfl, rfl⟩))
    go_ret
    exact ⟨rfl, rfl⟩

end Go.Proofs.YtmkaafnoanidpaaDoor
