/-
  Sum, the package's.
-/
import Derived.Test.YtkolpdfakhlkeaaDoorFrw
import Derived.Laws.Externs
namespace Go.Proofs.YtkolpdfakhlkeaaDoor
open Go.RowKit

/-- A number, or none. -/
def inQ (T : Int) : Int := if -9223372036854775808 ≤ T ∧ T ≤ 9223372036854775807 then T else 0
def inB (T : Int) : Bool := decide (-9223372036854775808 ≤ T ∧ T ≤ 9223372036854775807)
theorem in_in {T : Int} (h : I64 T) : inQ T = T ∧ inB T = true := ⟨if_pos h, decide_eq_true h⟩
theorem in_out {T : Int} (h : ¬ I64 T) : inQ T = 0 ∧ inB T = false := ⟨if_neg h, decide_eq_false h⟩

theorem add64_run (x y : Int) (hx : 0 ≤ x) (hy : 0 ≤ y) (w : World) :
    (callFunc 33 #[.int .u64 x, .int .u64 y, .int .u64 0]).run Tryd.prog w =
      .ok (.value (.tuple #[.int .u64 ((x + y) % 18446744073709551616), .int .u64 ((x + y) / 18446744073709551616)])) w := by
  rw [run_callFunc_extern Tryd.func33 (by kernel_rfl) (by kernel_rfl) (by kernel_rfl) (e := add64Entry) (by kernel_rfl), run_add64 x y 0 hx hy (by omega) (by omega), Int.add_zero]
  rfl

/-- The sum of the first k. -/
def tot (zs : List Int) : Nat → Int
  | 0 => 0
  | k + 1 => tot zs k + zs.getD k 0

set_option maxRecDepth 100000 in
set_option maxHeartbeats 1000000 in
theorem sum_any (p : Nat → Prop) (rv : Value) (zs : List Int) (w : World) (hr : Rw p w rv zs) :
    Calls Tryd.prog 30 #[rv] w fun e w' => e = .returned (.tuple #[.int .i64 (inQ (tot zs zs.length)), .bool (inB (tot zs zs.length))]) ∧ Drew w w' := by
  have hget := hr.get
  obtain ⟨ao, cap, rfl, hl, hc, _⟩ := hr
  obtain ⟨TT, hTT⟩ : ∃ TT, tot zs zs.length = TT := ⟨_, rfl⟩
  rw [hTT]
  have HTT : Hid (tot zs zs.length = TT) := hTT
  clear hTT
  go_enter Tryd.func30, Tryd.ntmps30
  go_wp2
  go_loopw [4, 5, 12] (fun hv lv i wr => ∃ (j : Nat) (H L : Int), j ≤ zs.length ∧ i = .int .i64 j ∧ hv = .int .i64 H ∧ lv = .int .u64 L ∧ 0 ≤ L ∧ L < 18446744073709551616 ∧ H * 18446744073709551616 + L = tot zs j ∧ -(j : Int) ≤ H ∧ H ≤ j ∧ Drew w wr) (fun _ _ i _ => zs.length - (intOf i).toNat)
  case atStart => exact ⟨0, 0, 0, by omega, rfl, rfl, rfl, by omega, by omega, rfl, by omega, by omega, Drew.refl _⟩
  case round =>
    obtain ⟨j, H, L, hj, rfl, rfl, rfl, l0, l1, ht, h0, h1, hwr⟩ := hrel
    have HW : Hid (Drew w wr) := hwr
    by_cases hlt : j < zs.length
    · obtain ⟨b, off, rfl, _, _, hcell⟩ := hc (fun e => by rw [e] at hlt; simp at hlt)
      have g1 : wr.cell? ⟨b, off + j, none⟩ = some (.int .i64 (zs.getD j 0)) := by obtain ⟨n, rfl⟩ := hwr; exact hcell j hlt
      have HT : Hid (tot zs (j + 1) = tot zs j + zs.getD j 0) := rfl
      obtain ⟨x0, x1⟩ := hget j
      clear hcell hwr hc hget
      generalize zs.getD j 0 = x at *
      generalize tot zs j = T at *
      obtain ⟨s, hs⟩ : ∃ s, x / 9223372036854775808 = s := ⟨_, rfl⟩
      obtain ⟨y, hy⟩ : ∃ y, IntKind.u64.wrap x = y := ⟨_, rfl⟩
      have hys : y = x - s * 18446744073709551616 ∧ (s = 0 ∨ s = -1) := by rw [← hy, IntKind.wrap_u64, ← hs]; omega
      have y0 : 0 ≤ y := by omega
      have y1 : y < 18446744073709551616 := by omega
      have hadd := add64_run L y l0 y0
      obtain ⟨L', hL'⟩ : ∃ L', (L + y) % 18446744073709551616 = L' := ⟨_, rfl⟩
      obtain ⟨c, hc'⟩ : ∃ c, (L + y) / 18446744073709551616 = c := ⟨_, rfl⟩
      have hLc : L' + c * 18446744073709551616 = L + y ∧ 0 ≤ L' ∧ L' < 18446744073709551616 ∧ 0 ≤ c ∧ c ≤ 1 := by omega
      rw [hL', hc'] at hadd
      have HY : Hid (y = x - s * 18446744073709551616 ∧ (s = 0 ∨ s = -1)) := hys
      have HL : Hid (L' + c * 18446744073709551616 = L + y ∧ 0 ≤ L' ∧ L' < 18446744073709551616) := ⟨hLc.1, hLc.2.1, hLc.2.2.1⟩
      have HT2 : Hid (H * 18446744073709551616 + L = T) := ht
      have s0 : -1 ≤ s := by omega
      have s1 : s ≤ 0 := by omega
      have c0 : 0 ≤ c := by omega
      have c1 : c ≤ 1 := by omega
      have B2 : Hid (x = x) := rfl
      clear hL' hc' hLc hys ht l0 l1 y0 y1 B2
      go_wp2
      go_roundw
      case rel => exact ⟨j + 1, H + (s + c), L', by omega, by go_num, rfl, rfl, by have := HL.out; omega, by have := HL.out; omega, by rw [HT.out]; have h1 := HL.out; have h2 := HY.out; have h3 := HT2.out; omega, by omega, by omega, HW.out⟩
      case measure => simp [intOf]; omega
    · obtain rfl : j = zs.length := by omega
      clear hwr hc hget
      rw [HTT.out] at ht
      obtain ⟨S, hS⟩ : ∃ S, wrap64 L = S := ⟨_, rfl⟩
      obtain ⟨t, hSt⟩ : ∃ t, S / 9223372036854775808 = t := ⟨_, rfl⟩
      have hSL : (L < 9223372036854775808 ∧ S = L ∧ t = 0) ∨ (9223372036854775808 ≤ L ∧ S = L - 18446744073709551616 ∧ t = -1) := by
        rw [← hSt, ← hS]; unfold wrap64; omega
      by_cases heq : H = t
      · have hT : S = TT := by omega
        have hI : I64 S := by unfold I64; omega
        have hd : (H != t) = false := by simp [heq]
        have HE : Hid (inQ S = S ∧ inB S = true) := in_in hI
        subst hT
        have HS : Hid (wrap64 L = S) := hS
        clear heq hSL ht hI l0 l1
        go_wp2
        go_ret2
        exact ⟨by rw [HE.out.1, HE.out.2, ← HS.out]; rfl, HW.out⟩
      · have hI : ¬ I64 TT := by unfold I64; omega
        have hd : (H != t) = true := by simp [heq]
        have HE : Hid (inQ TT = 0 ∧ inB TT = false) := in_out hI
        clear heq hSL ht hI l0 l1
        go_wp2
        go_ret2
        exact ⟨by rw [HE.out.1, HE.out.2]; rfl, HW.out⟩

theorem and_32 (x : Int) : bits .and .i64 x 4294967295 = x % 4294967296 := and_mask x 32 (by omega)
end Go.Proofs.YtkolpdfakhlkeaaDoor
