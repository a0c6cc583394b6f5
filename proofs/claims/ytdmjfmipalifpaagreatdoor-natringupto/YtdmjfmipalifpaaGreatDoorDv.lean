/-
  math/bits.Div64: the quotient and the rest of two words over one.
-/
import Derived.Test.YtdmjfmipalifpaaGreatDoorDv2N
import Derived.Test.YtdmjfmipalifpaaGreatDoorShB
import Derived.Test.YtdmjfmipalifpaaGreatDoorBase
import Derived.Lib.ItoaNum
import Derived.BigQuiet
import Derived.Deep.DeepCutAuto
import Derived.Deep.CutBlock
import Derived.Deep.QuietTactic
namespace Go.Proofs.YtdmjfmipalifpaaGreatDoor
open Go.RowKit

set_option maxHeartbeats 400000 in
theorem div64_low (lo y : Nat) (w : World) (hlo : lo < 18446744073709551616) (hy : y < 18446744073709551616) (h0 : 0 < y) :
    Calls Tryz.prog 83 #[.int .u64 0, .int .u64 lo, .int .u64 y] w fun e w' => e = .returned (.tuple #[.int .u64 ((lo / y : Nat) : Int), .int .u64 ((lo % y : Nat) : Int)]) ∧ ∃ n, w' = w.drewN n := by
  have hne : (y : Int) ≠ 0 := by omega
  have hd : lo / y ≤ lo := Nat.div_le_self _ _
  go_enter Tryz.func83, Tryz.ntmps83
  go_wp2
  go_quiet (fail)
  go_wp2
  go_ret2
  exact ⟨by
    simp [Array.getD]
    rw [show (lo : Int) / (y : Int) = ((lo / y : Nat) : Int) by simp, IntKind.wrap_u64]
    generalize lo / y = q at *
    omega, _, rfl⟩

theorem sh_cast (a s : Nat) (hs : s ≤ 63) : (a : Int) * 2 ^ min ((s : Int)).toNat 64 = ((a * 2 ^ s : Nat) : Int) := by
  rw [Int.toNat_natCast, Nat.min_eq_left (by omega)]
  simp
theorem or_sum (a b s : Nat) (hb : b < 2 ^ s) (ha : a * 2 ^ s < 18446744073709551616) (hs : s ≤ 63) : bits .or .u64 ((a * 2 ^ s : Nat) : Int) (b : Int) = ((a * 2 ^ s + b : Nat) : Int) := by
  have hp : 2 ^ s ≤ 2 ^ 63 := Nat.pow_le_pow_right (by omega) hs
  rw [bits_or_u64_nat _ _ ha (by omega), Nat.mul_comm a, Nat.two_pow_add_eq_or_of_lt hb]
theorem and_low (a : Nat) (ha : a < 18446744073709551616) : bits .and .u64 (a : Int) 4294967295 = ((a % 4294967296 : Nat) : Int) := by
  have h := bits_and_u64_nat a 4294967295 ha (by omega)
  rw [show ((4294967295 : Nat) : Int) = 4294967295 from rfl] at h
  rw [h, show (4294967295 : Nat) = 2 ^ 32 - 1 from rfl, Nat.and_two_pow_sub_one_eq_mod]

set_option maxHeartbeats 400000 in
theorem div64_high (hi lo y : Nat) (w : World) (hlo : lo < 18446744073709551616) (hy : y < 18446744073709551616) (h0 : 0 < hi) (h1 : hi < y) :
    Calls Tryz.prog 83 #[.int .u64 hi, .int .u64 lo, .int .u64 y] w fun e w' => e = .returned (.tuple #[.int .u64 (((hi * 18446744073709551616 + lo) / y : Nat) : Int), .int .u64 (((hi * 18446744073709551616 + lo) % y : Nat) : Int)]) ∧ w' = w := by
  obtain ⟨QT, hQT⟩ : ∃ q, q = (hi * 18446744073709551616 + lo) / y := ⟨_, rfl⟩
  obtain ⟨RT, hRT⟩ : ∃ q, q = (hi * 18446744073709551616 + lo) % y := ⟨_, rfl⟩
  rw [← hQT, ← hRT]
  have HQ : Hid (QT = (hi * 18446744073709551616 + lo) / y) := hQT
  have HR : Hid (RT = (hi * 18446744073709551616 + lo) % y) := hRT
  clear hQT hRT
  obtain ⟨s, hs⟩ : ∃ s : Nat, 64 - (Lib.bitLen y : Int) = (s : Int) ∧ s ≤ 63 ∧ 9223372036854775808 ≤ y * 2 ^ s ∧ y * 2 ^ s < 18446744073709551616 := by
    obtain ⟨b1, b2, b3⟩ := Lib.bitLenAux_bounds 64 y hy (by omega)
    have b4 : Lib.bitLenAux 64 y ≤ 64 := Lib.bitLenAux_le 64 y 64 hy
    unfold Lib.bitLen
    generalize Lib.bitLenAux 64 y = b at *
    refine ⟨64 - b, by omega, by omega, ?_, ?_⟩
    · have := Nat.mul_le_mul_right (2 ^ (64 - b)) b2
      rw [← Nat.pow_add, show b - 1 + (64 - b) = 63 by omega] at this
      exact this
    · have := Nat.mul_lt_mul_of_pos_right b3 (show 0 < 2 ^ (64 - b) by exact Nat.pow_pos (by omega))
      rw [← Nat.pow_add, show b + (64 - b) = 64 by omega] at this
      exact this
  obtain ⟨hs1, hs63, hY0, hY1⟩ := hs
  go_enter Tryz.func83, Tryz.ntmps83
  go_wp2_with fail
  refine (bits_LeadingZeros64 _ _ (by omega) (by omega)).mono ?_
  rintro e w1 ⟨rfl, rfl⟩
  rw [Int.toNat_natCast, hs1]
  go_upto_region 13 with fail
  have hst : 2 ^ s * 2 ^ (64 - s) = 18446744073709551616 := by rw [← Nat.pow_add, show s + (64 - s) = 64 by omega]
  obtain ⟨hV, hU⟩ := dv_shift (hi := hi) (lo := lo) hst
  have hTp : 0 < 2 ^ (64 - s) := Nat.pow_pos (by omega)
  have hSp : 0 < 2 ^ s := Nat.pow_pos (by omega)
  have hHS : hi * 2 ^ s < 18446744073709551616 := Nat.lt_of_le_of_lt (Nat.mul_le_mul_right _ (Nat.le_of_lt h1)) hY1
  have hLT : lo / 2 ^ (64 - s) < 2 ^ s := by
    rw [Nat.div_lt_iff_lt_mul hTp, hst]; exact hlo
  have hUY : hi * 2 ^ s + lo / 2 ^ (64 - s) < y * 2 ^ s := by
    have := Nat.mul_le_mul_right (2 ^ s) (show hi + 1 ≤ y by omega)
    rw [Nat.add_mul] at this
    omega
  have a1 : IntKind.u64.wrap ((y : Int) * 2 ^ s) = ((y * 2 ^ s : Nat) : Int) := by
    rw [show (y : Int) * 2 ^ s = ((y * 2 ^ s : Nat) : Int) by simp, IntKind.wrap_u64]; omega
  have a2 : IntKind.u64.wrap ((hi : Int) * 2 ^ s) = ((hi * 2 ^ s : Nat) : Int) := by
    rw [show (hi : Int) * 2 ^ s = ((hi * 2 ^ s : Nat) : Int) by simp, IntKind.wrap_u64]; omega
  have a3 : (lo : Int) / 2 ^ (64 - s) = ((lo / 2 ^ (64 - s) : Nat) : Int) := by simp
  have a4 := or_sum hi (lo / 2 ^ (64 - s)) s hLT hHS hs63
  have a5 : IntKind.u64.wrap ((lo : Int) * 2 ^ s) = ((lo % 2 ^ (64 - s) * 2 ^ s : Nat) : Int) := by
    rw [← hV, show (lo : Int) * 2 ^ s = ((lo * 2 ^ s : Nat) : Int) by simp, IntKind.wrap_u64]; omega
  have a6 := and_low (y * 2 ^ s) hY1
  have hVl : lo % 2 ^ (64 - s) * 2 ^ s < 18446744073709551616 := by rw [← hV]; exact Nat.mod_lt _ (by omega)
  have hback := dv_back (U := hi * 18446744073709551616 + lo) (y := y) hSp
  rw [a1, a2, a3, a4, a5, a6]
  have hQT := HQ.out
  have hRT := HR.out
  rw [← hback.1, ← hU] at hQT
  rw [← hback.2, ← hU] at hRT
  clear HQ HR hback hU hV a1 a2 a3 a4 a5 a6 hLT hHS hst hTp
  generalize hi * 2 ^ s + lo / 2 ^ (64 - s) = U at *
  generalize lo % 2 ^ (64 - s) * 2 ^ s = V at *
  generalize y * 2 ^ s = Y at *
  have a7 := and_low V hVl
  have HQ : Hid (QT = (U * 18446744073709551616 + V) / Y) := hQT
  have HR : Hid (RT = (U * 18446744073709551616 + V) % Y / 2 ^ s) := hRT
  clear hQT hRT
  obtain ⟨y1, hy1⟩ : ∃ y1, y1 = Y / 4294967296 := ⟨_, rfl⟩
  obtain ⟨y0, hy0⟩ : ∃ y0, y0 = Y % 4294967296 := ⟨_, rfl⟩
  obtain ⟨n1, hn1⟩ : ∃ n1, n1 = V / 4294967296 := ⟨_, rfl⟩
  obtain ⟨n0, hn0⟩ : ∃ n0, n0 = V % 4294967296 := ⟨_, rfl⟩
  have b1 : ((Y : Int)) / 4294967296 = (y1 : Int) := by rw [hy1]; simp
  have b2 : ((V : Int)) / 4294967296 = (n1 : Int) := by rw [hn1]; simp
  rw [b1, ← hy0]
  rw [← hn0] at a7
  have HY1 : Hid (y1 = Y / 4294967296) := hy1
  have HY0 : Hid (y0 = Y % 4294967296) := hy0
  have HN1 : Hid (n1 = V / 4294967296) := hn1
  have HN0 : Hid (n0 = V % 4294967296) := hn0
  have y1lo : 2147483648 ≤ y1 := by omega
  have y1hi : y1 < 4294967296 := by omega
  have y0hi : y0 < 4294967296 := by omega
  have n1hi : n1 < 4294967296 := by omega
  have n0hi : n0 < 4294967296 := by omega
  clear hy1 hy0 hn1 hn0 b1 hs1 hlo hy h0 h1
  obtain ⟨q, hq⟩ : ∃ q, q = U / y1 := ⟨_, rfl⟩
  obtain ⟨r, hr⟩ : ∃ r, r = U % y1 := ⟨_, rfl⟩
  obtain ⟨P, hP⟩ : ∃ P, P = q * y1 := ⟨_, rfl⟩
  have hPU : P + r = U := by rw [hP, hq, hr]; exact Nat.div_add_mod' U y1
  have c1 : (U : Int) / (y1 : Int) = (q : Int) := by rw [hq]; simp
  have c2 : (q : Int) * (y1 : Int) = (P : Int) := by rw [hP]; simp
  have c3 : (U : Int) - (P : Int) = (r : Int) := by omega
  have hry : r < y1 := by rw [hr]; exact Nat.mod_lt _ (by omega)
  have hyy : Y = y1 * 4294967296 + y0 := by rw [HY1.out, HY0.out]; omega
  have HYY : Hid (Y = y1 * 4294967296 + y0) := hyy
  have HQR : Hid (q * y1 + r = U) := by show q * y1 + r = U; rw [← hP]; exact hPU
  have HGE : Hid ((U * 4294967296 + n1) / Y ≤ q) := by show _ ≤ q; rw [hq]; exact dv_ge hyy (by omega) n1hi
  have hqt : q ≤ 4294967297 := by rw [hq]; exact dv_top hyy y0hi y1lo hUY
  have HUY : Hid (U < Y) := hUY
  have hUl : U < 18446744073709551616 := by omega
  have hPl : P ≤ U := by omega
  clear hq hr hP hyy hPU
  go_upto_block 0 with fail
  go_cut [15, 16] (fun av bv w' => av = .int .u64 (((U * 4294967296 + n1) / Y : Nat) : Int) ∧ (∃ r : Nat, bv = .int .u64 (r : Int)) ∧ w' = w1)
  case first =>
    go_wp2_with fail
    go_loop [15, 16] (fun av bv => ∃ q r : Nat, av = .int .u64 (q : Int) ∧ bv = .int .u64 (r : Int) ∧ Hid (q * y1 + r = U) ∧ r < 4294967296 ∧ Hid ((U * 4294967296 + n1) / Y ≤ q) ∧ q ≤ 4294967297) (fun av _ => (intOf av).toNat)
    case atStart => exact ⟨q, r, rfl, rfl, HQR, by omega, HGE, hqt⟩
    case round =>
      clear HQR HGE hqt hry c1 c2 c3
      obtain ⟨q, r, rfl, rfl, HQR, hr, HGE, hqt⟩ := hrel
      by_cases t1 : 4294967296 ≤ q
      · obtain ⟨q', rfl, e1, e2⟩ := dv_next HYY.out HQR.out HUY.out n1hi (.inl t1)
        have HE1 : Hid (q' * y1 + (r + y1) = U) := e1
        have HE2 : Hid ((U * 4294967296 + n1) / Y ≤ q') := e2
        clear e1 e2 HQR HGE
        · have tb : decide ((4294967296 : Int) ≤ (q' : Int) + 1) = true := by rw [decide_eq_true_iff]; omega
          have HE3 := show Hid _ from HE2
          by_cases hb : 4294967296 ≤ r + y1
          · have hbb : decide ((4294967296 : Int) ≤ (r : Int) + (y1 : Int)) = true := by rw [decide_eq_true_iff]; omega
            have hfin := dv_brk HYY.out HE1.out HUY.out HE2.out y0hi (by omega) hb
            have HF := show Hid _ from hfin
            clear hfin
            go_wp2
            go_meet
            case rel => exact ⟨by rw [HF.out], ⟨_, rfl⟩, rfl⟩
          · have hbb : decide ((4294967296 : Int) ≤ (r : Int) + (y1 : Int)) = false := by rw [decide_eq_false_iff_not]; omega
            go_wp2
            go_round
            case rel => exact ⟨q', r + y1, rfl, by go_num, HE1, by omega, HE2, by omega⟩
            case measure => simp [intOf]

      · by_cases t2 : 4294967296 * r + n1 < q * y0
        · obtain ⟨q', rfl, e1, e2⟩ := dv_next HYY.out HQR.out HUY.out n1hi (.inr t2)
          have HE1 : Hid (q' * y1 + (r + y1) = U) := e1
          have HE2 : Hid ((U * 4294967296 + n1) / Y ≤ q') := e2
          clear e1 e2 HQR HGE
          have tb : decide ((4294967296 : Int) ≤ (q' : Int) + 1) = false := by rw [decide_eq_false_iff_not]; omega
          have hTl : (q' + 1) * y0 ≤ 4294967295 * 4294967295 := Nat.mul_le_mul (by omega) (by omega)
          obtain ⟨T, hT⟩ : ∃ T, T = (q' + 1) * y0 := ⟨_, rfl⟩
          have c4 : ((q' : Int) + 1) * (y0 : Int) = (T : Int) := by rw [hT]; simp
          rw [← hT] at t2 hTl
          clear hT
          have HE3 := show Hid _ from HE2
          by_cases hb : 4294967296 ≤ r + y1
          · have hbb : decide ((4294967296 : Int) ≤ (r : Int) + (y1 : Int)) = true := by rw [decide_eq_true_iff]; omega
            have hfin := dv_brk HYY.out HE1.out HUY.out HE2.out y0hi (by omega) hb
            have HF := show Hid _ from hfin
            clear hfin
            go_wp2
            go_meet
            case rel => exact ⟨by rw [HF.out], ⟨_, rfl⟩, rfl⟩
          · have hbb : decide ((4294967296 : Int) ≤ (r : Int) + (y1 : Int)) = false := by rw [decide_eq_false_iff_not]; omega
            go_wp2
            go_round
            case rel => exact ⟨q', r + y1, rfl, by go_num, HE1, by omega, HE2, by omega⟩
            case measure => simp [intOf]

        · have hfin := dv_stop HYY.out HQR.out HUY.out HGE.out (show q * y0 ≤ 4294967296 * r + n1 by omega)
          have HF := show Hid _ from hfin
          have tb : decide ((4294967296 : Int) ≤ (q : Int)) = false := by rw [decide_eq_false_iff_not]; omega
          have hTl : q * y0 ≤ 4294967295 * 4294967295 := Nat.mul_le_mul (by omega) (by omega)
          obtain ⟨T, hT⟩ : ∃ T, T = q * y0 := ⟨_, rfl⟩
          have c4 : (q : Int) * (y0 : Int) = (T : Int) := by rw [hT]; simp
          rw [← hT] at t2 hTl
          clear hT hfin HQR HGE
          go_wp2
          go_meet
          case rel => exact ⟨by rw [HF.out], ⟨_, rfl⟩, rfl⟩
  case rest =>
    obtain ⟨rfl, ⟨r', rfl⟩, hwc⟩ := hcut
    have hwc' := hwc.symm
    clear hwc
    subst hwc'
    clear HQR HGE hqt hry c1 c2 c3 hPl
    obtain ⟨Q1, hQ1⟩ : ∃ Q1, Q1 = (U * 4294967296 + n1) / Y := ⟨_, rfl⟩
    obtain ⟨r1, hr1⟩ : ∃ r1, r1 = (U * 4294967296 + n1) % Y := ⟨_, rfl⟩
    obtain ⟨P1, hP1⟩ : ∃ P1, P1 = Q1 * Y := ⟨_, rfl⟩
    have hd1 : P1 + r1 = U * 4294967296 + n1 := by rw [hP1, hQ1, hr1]; exact Nat.div_add_mod' _ Y
    have hr1Y : r1 < Y := by rw [hr1]; exact Nat.mod_lt _ (by omega)
    have HD1 : Hid (Y * Q1 + r1 = U * 4294967296 + n1) := by show Y * Q1 + r1 = _; rw [Nat.mul_comm, ← hP1]; exact hd1
    rw [← hQ1]
    have hQ1l : Q1 < 4294967296 := by rw [hQ1]; exact dv_lt HUY.out n1hi
    have d1 : IntKind.u64.wrap (IntKind.u64.wrap (IntKind.u64.wrap ((U : Int) * 4294967296) + (n1 : Int)) - IntKind.u64.wrap ((Q1 : Int) * (Y : Int))) = (r1 : Int) := by
      rw [show (Q1 : Int) * (Y : Int) = (P1 : Int) by rw [hP1]; simp, IntKind.wrap_u64, IntKind.wrap_u64, IntKind.wrap_u64, IntKind.wrap_u64]
      omega
    clear hQ1 hr1 hP1 hd1
    go_upto_region 22 with fail
    clear d1
    obtain ⟨q, hq⟩ : ∃ q, q = r1 / y1 := ⟨_, rfl⟩
    obtain ⟨r, hr⟩ : ∃ r, r = r1 % y1 := ⟨_, rfl⟩
    obtain ⟨P, hP⟩ : ∃ P, P = q * y1 := ⟨_, rfl⟩
    have hPU : P + r = r1 := by rw [hP, hq, hr]; exact Nat.div_add_mod' r1 y1
    have c1 : (r1 : Int) / (y1 : Int) = (q : Int) := by rw [hq]; simp
    have c2 : (q : Int) * (y1 : Int) = (P : Int) := by rw [hP]; simp
    have c3 : (r1 : Int) - (P : Int) = (r : Int) := by omega
    have hry : r < y1 := by rw [hr]; exact Nat.mod_lt _ (by omega)
    have hyy := HYY.out
    have HQR : Hid (q * y1 + r = r1) := by show q * y1 + r = r1; rw [← hP]; exact hPU
    have HGE : Hid ((r1 * 4294967296 + n0) / Y ≤ q) := by show _ ≤ q; rw [hq]; exact dv_ge hyy (by omega) n0hi
    have hqt : q ≤ 4294967297 := by rw [hq]; exact dv_top hyy y0hi y1lo hr1Y
    clear HUY
    have HUY : Hid (r1 < Y) := hr1Y
    have hrl : r1 < 18446744073709551616 := by omega
    have hPl : P ≤ r1 := by omega
    clear hq hr hP hyy hPU
    go_upto_block 2 with fail
    go_cut [16, 18] (fun bv av w' => av = .int .u64 (((r1 * 4294967296 + n0) / Y : Nat) : Int) ∧ (∃ r : Nat, bv = .int .u64 (r : Int)) ∧ w' = w1)
    case first =>
      go_wp2_with fail
      go_loop [16, 18] (fun bv av => ∃ q r : Nat, av = .int .u64 (q : Int) ∧ bv = .int .u64 (r : Int) ∧ Hid (q * y1 + r = r1) ∧ r < 4294967296 ∧ Hid ((r1 * 4294967296 + n0) / Y ≤ q) ∧ q ≤ 4294967297) (fun _ av => (intOf av).toNat)
      case atStart => exact ⟨q, r, rfl, rfl, HQR, by omega, HGE, hqt⟩
      case round =>
        clear HQR HGE hqt hry c1 c2 c3
        obtain ⟨q, r, rfl, rfl, HQR, hr, HGE, hqt⟩ := hrel
        by_cases t1 : 4294967296 ≤ q
        · obtain ⟨q', rfl, e1, e2⟩ := dv_next HYY.out HQR.out HUY.out n0hi (.inl t1)
          have HE1 : Hid (q' * y1 + (r + y1) = r1) := e1
          have HE2 : Hid ((r1 * 4294967296 + n0) / Y ≤ q') := e2
          clear e1 e2 HQR HGE
          · have tb : decide ((4294967296 : Int) ≤ (q' : Int) + 1) = true := by rw [decide_eq_true_iff]; omega
            have HE3 := show Hid _ from HE2
            by_cases hb : 4294967296 ≤ r + y1
            · have hbb : decide ((4294967296 : Int) ≤ (r : Int) + (y1 : Int)) = true := by rw [decide_eq_true_iff]; omega
              have hfin := dv_brk HYY.out HE1.out HUY.out HE2.out y0hi (by omega) hb
              have HF := show Hid _ from hfin
              clear hfin
              go_wp2
              go_meet
              case rel => exact ⟨by rw [HF.out], ⟨_, rfl⟩, rfl⟩
            · have hbb : decide ((4294967296 : Int) ≤ (r : Int) + (y1 : Int)) = false := by rw [decide_eq_false_iff_not]; omega
              go_wp2
              go_round
              case rel => exact ⟨q', r + y1, rfl, by go_num, HE1, by omega, HE2, by omega⟩
              case measure => simp [intOf]

        · by_cases t2 : 4294967296 * r + n0 < q * y0
          · obtain ⟨q', rfl, e1, e2⟩ := dv_next HYY.out HQR.out HUY.out n0hi (.inr t2)
            have HE1 : Hid (q' * y1 + (r + y1) = r1) := e1
            have HE2 : Hid ((r1 * 4294967296 + n0) / Y ≤ q') := e2
            clear e1 e2 HQR HGE
            have tb : decide ((4294967296 : Int) ≤ (q' : Int) + 1) = false := by rw [decide_eq_false_iff_not]; omega
            have hTl : (q' + 1) * y0 ≤ 4294967295 * 4294967295 := Nat.mul_le_mul (by omega) (by omega)
            obtain ⟨T, hT⟩ : ∃ T, T = (q' + 1) * y0 := ⟨_, rfl⟩
            have c4 : ((q' : Int) + 1) * (y0 : Int) = (T : Int) := by rw [hT]; simp
            rw [← hT] at t2 hTl
            clear hT
            have HE3 := show Hid _ from HE2
            by_cases hb : 4294967296 ≤ r + y1
            · have hbb : decide ((4294967296 : Int) ≤ (r : Int) + (y1 : Int)) = true := by rw [decide_eq_true_iff]; omega
              have hfin := dv_brk HYY.out HE1.out HUY.out HE2.out y0hi (by omega) hb
              have HF := show Hid _ from hfin
              clear hfin
              go_wp2
              go_meet
              case rel => exact ⟨by rw [HF.out], ⟨_, rfl⟩, rfl⟩
            · have hbb : decide ((4294967296 : Int) ≤ (r : Int) + (y1 : Int)) = false := by rw [decide_eq_false_iff_not]; omega
              go_wp2
              go_round
              case rel => exact ⟨q', r + y1, rfl, by go_num, HE1, by omega, HE2, by omega⟩
              case measure => simp [intOf]

          · have hfin := dv_stop HYY.out HQR.out HUY.out HGE.out (show q * y0 ≤ 4294967296 * r + n0 by omega)
            have HF := show Hid _ from hfin
            have tb : decide ((4294967296 : Int) ≤ (q : Int)) = false := by rw [decide_eq_false_iff_not]; omega
            have hTl : q * y0 ≤ 4294967295 * 4294967295 := Nat.mul_le_mul (by omega) (by omega)
            obtain ⟨T, hT⟩ : ∃ T, T = q * y0 := ⟨_, rfl⟩
            have c4 : (q : Int) * (y0 : Int) = (T : Int) := by rw [hT]; simp
            rw [← hT] at t2 hTl
            clear hT hfin HQR HGE
            go_wp2
            go_meet
            case rel => exact ⟨by rw [HF.out], ⟨_, rfl⟩, rfl⟩
    case rest =>
      obtain ⟨rfl, ⟨r', rfl⟩, hwc⟩ := hcut
      have hwc' := hwc.symm
      clear hwc
      subst hwc'
      clear HQR HGE hqt hry c1 c2 c3 hPl
      obtain ⟨Q0, hQ0⟩ : ∃ Q0, Q0 = (r1 * 4294967296 + n0) / Y := ⟨_, rfl⟩
      obtain ⟨r0, hr0⟩ : ∃ r0, r0 = (r1 * 4294967296 + n0) % Y := ⟨_, rfl⟩
      obtain ⟨P0, hP0⟩ : ∃ P0, P0 = Q0 * Y := ⟨_, rfl⟩
      have hd0 : P0 + r0 = r1 * 4294967296 + n0 := by rw [hP0, hQ0, hr0]; exact Nat.div_add_mod' _ Y
      have hr0Y : r0 < Y := by rw [hr0]; exact Nat.mod_lt _ (by omega)
      have HD0 : Hid (Y * Q0 + r0 = r1 * 4294967296 + n0) := by show Y * Q0 + r0 = _; rw [Nat.mul_comm, ← hP0]; exact hd0
      have hQ0l : Q0 < 4294967296 := by rw [hQ0]; exact dv_lt HUY.out n0hi
      have d1 : IntKind.u64.wrap (IntKind.u64.wrap (IntKind.u64.wrap ((r1 : Int) * 4294967296) + (n0 : Int)) - IntKind.u64.wrap ((Q0 : Int) * (Y : Int))) = (r0 : Int) := by
        rw [show (Q0 : Int) * (Y : Int) = (P0 : Int) by rw [hP0]; simp, IntKind.wrap_u64, IntKind.wrap_u64, IntKind.wrap_u64, IntKind.wrap_u64]
        omega
      rw [← hQ0]
      have hV : V = n1 * 4294967296 + n0 := by rw [HN1.out, HN0.out]; omega
      obtain ⟨f1, f2⟩ := dv_two hr0Y HD1.out HD0.out
      have g1 := HQ.out
      have g2 := HR.out
      rw [hV, f1] at g1
      rw [hV, f2] at g2
      have G1 := show Hid _ from g1
      have G2 := show Hid _ from g2
      clear hQ0 hr0 hP0 hd0 f1 f2 g1 g2 hV
      go_wp2
      go_ret2
      refine ⟨?_, rfl⟩
      rw [G1.out, G2.out]
      simp [Array.getD]

/-- The quotient and the rest of two words over one. -/
theorem div64_any (hi lo y : Nat) (w : World) (hlo : lo < 18446744073709551616) (hy : y < 18446744073709551616) (h1 : hi < y) :
    Calls Tryz.prog 83 #[.int .u64 hi, .int .u64 lo, .int .u64 y] w fun e w' => e = .returned (.tuple #[.int .u64 (((hi * 18446744073709551616 + lo) / y : Nat) : Int), .int .u64 (((hi * 18446744073709551616 + lo) % y : Nat) : Int)]) ∧ ∃ n, w' = w.drewN n := by
  rcases Nat.eq_zero_or_pos hi with h | h
  · subst h
    rw [Nat.zero_mul, Nat.zero_add]
    exact div64_low lo y w hlo hy h1
  · refine (div64_high hi lo y w hlo hy h h1).mono ?_
    rintro e w' ⟨rfl, rfl⟩
    exact ⟨rfl, 0, by simp [World.drewN_zero]⟩
end Go.Proofs.YtdmjfmipalifpaaGreatDoor
