/-
  Which of two is less: the program's Compare.
-/
import Derived.Test.YtagbjlkpmjbfnabDoorNe
namespace Go.Proofs.YtagbjlkpmjbfnabDoor
open Go.RowKit Ieee

theorem andNot_top (b : Nat) (hb : b < 4294967296) : bits .andNot .u32 (b : Int) 2147483648 = ((b % 2147483648 : Nat) : Int) := by
  have h1 : (BitVec.ofInt 32 (b : Int)).toNat = b := by
    rw [BitVec.ofInt_natCast, BitVec.toNat_ofNat]; exact Nat.mod_eq_of_lt (by omega)
  have h2 : ~~~ (BitVec.ofInt 32 (2147483648 : Int)) = BitVec.ofNat 32 2147483647 := by decide
  show IntKind.u32.wrap ((BitVec.ofInt 32 (b : Int) &&& ~~~ (BitVec.ofInt 32 (2147483648 : Int))).toNat : Int) = _
  rw [h2, BitVec.toNat_and, h1]
  have h3 : (BitVec.ofNat 32 2147483647).toNat = 2 ^ 31 - 1 := by decide
  rw [h3, Nat.and_two_pow_sub_one_eq_mod]
  have e : IntKind.u32.wrap ((b % 2 ^ 31 : Nat) : Int) = ((b % 2 ^ 31 : Nat) : Int) % 4294967296 := by simp [IntKind.wrap, IntKind.signed, IntKind.bits]
  rw [e]
  omega

theorem low_none (b : Nat) : (2139095040 < b % 2147483648) ↔ (bE b = 255 ∧ bF b ≠ 0) := by
  have h1 := bE_lt b
  have h2 := bF_lt b
  rw [low_eq]
  omega

set_option maxHeartbeats 400000 in
theorem isNone_any (b : Nat) (w : World) (hS : Sing w) (hb : b < 4294967296) :
    Calls Tryd.prog 24 #[.int .u32 b] w fun e w' => e = .returned (.bool (decide (bE b = 255 ∧ bF b ≠ 0))) ∧ Fresh w w' := by
  obtain ⟨s0, s1⟩ := hS
  have a1 := andNot_top b hb
  have a2 : decide ((2139095040 : Int) < ((b % 2147483648 : Nat) : Int)) = decide (bE b = 255 ∧ bF b ≠ 0) := by
    congr 1
    apply propext
    rw [← low_none]
    omega
  have hl : b % 2147483648 < 2147483648 := Nat.mod_lt _ (by decide)
  generalize decide (bE b = 255 ∧ bF b ≠ 0) = R at *
  generalize b % 2147483648 = l at *
  go_enter Tryd.func24, Tryd.ntmps24
  go_wp2_with fail
  refine (infinite_single _).mono ?_
  rintro e w1 ⟨rfl, h1⟩
  go_wp2
  go_ret
  exact ⟨rfl, h1⟩

set_option maxHeartbeats 400000 in
theorem isNaN_any (r : Nat) (w : World) (h : NotNan r) :
    Calls Tryd.prog 44 #[.float .f32 r] w fun e w' => e = .returned (.bool false) ∧ w = w' := by
  have h2 : FloatKind.f32.format.order r r = some .eq := h.order
  go_enter Tryd.func44, Tryd.ntmps44
  go_wp2
  go_ret
  exact ⟨rfl, rfl⟩

theorem order_tests {a b : Nat} (ha : NotNan a) (hb : NotNan b) : (FloatKind.f32.format.order a b == some .lt) = decide (vl a < vl b) ∧ (FloatKind.f32.format.order a b == some .gt) = decide (vl b < vl a) := by
  have h : FloatKind.f32.format.order a b = some (compare (vl a) (vl b)) := order_vl a b ha.1 hb.1 ha.2 hb.2
  rw [h, compare_int]
  rcases Int.lt_trichotomy (vl a) (vl b) with g | g | g
  · rw [if_pos g, decide_eq_true g, decide_eq_false (by omega)]; exact ⟨rfl, rfl⟩
  · rw [if_neg (by omega), if_pos g, decide_eq_false (by omega), decide_eq_false (by omega)]; exact ⟨rfl, rfl⟩
  · rw [if_neg (by omega), if_neg (by omega), decide_eq_false (by omega), decide_eq_true g]; exact ⟨rfl, rfl⟩

set_option maxHeartbeats 800000 in
theorem cmp_any (a b : Nat) (w : World) (ha : NotNan a) (hb : NotNan b) :
    Calls Tryd.prog 25 #[.float .f32 a, .float .f32 b] w fun e w' => e = .returned (.int .i64 (cmp3 (vl a) (vl b))) ∧ w = w' := by
  obtain ⟨t1, t2⟩ := order_tests ha hb
  unfold cmp3
  have HA := show Hid _ from fun X => isNaN_any a X ha
  have HB := show Hid _ from fun X => isNaN_any b X hb
  clear ha hb
  by_cases h1 : vl a < vl b
  · rw [if_pos h1]
    rw [decide_eq_true h1] at t1
    clear h1 t2
    go_enter Tryd.func25, Tryd.ntmps25
    go_wp2_with fail
    refine (HA.out _).mono ?_
    rintro r X ⟨rfl, rfl⟩
    go_wp2_with fail
    refine (HB.out _).mono ?_
    rintro r X ⟨rfl, rfl⟩
    go_wp2
    go_ret
    exact ⟨rfl, rfl⟩
  · rw [if_neg h1]
    rw [decide_eq_false h1] at t1
    by_cases h2 : vl b < vl a
    · rw [if_pos h2]
      rw [decide_eq_true h2] at t2
      clear h1 h2
      go_enter Tryd.func25, Tryd.ntmps25
      go_wp2_with fail
      refine (HA.out _).mono ?_
      rintro r X ⟨rfl, rfl⟩
      go_wp2_with fail
      refine (HB.out _).mono ?_
      rintro r X ⟨rfl, rfl⟩
      go_wp2
      go_ret
      exact ⟨rfl, rfl⟩
    · rw [if_neg h2]
      rw [decide_eq_false h2] at t2
      clear h1 h2
      go_enter Tryd.func25, Tryd.ntmps25
      go_wp2_with fail
      refine (HA.out _).mono ?_
      rintro r X ⟨rfl, rfl⟩
      go_wp2_with fail
      refine (HB.out _).mono ?_
      rintro r X ⟨rfl, rfl⟩
      go_wp2
      go_ret
      exact ⟨rfl, rfl⟩

/-- Neither is none. -/
def okC (a b : Nat) : Bool := !(decide (bE a = 255 ∧ bF a ≠ 0) || decide (bE b = 255 ∧ bF b ≠ 0))
/-- What Compare says. -/
def cmpC (a b : Nat) : Int := if okC a b then cmp3 (vl a) (vl b) else 0

set_option maxHeartbeats 800000 in
theorem Compare_any (a b : Nat) (w : World) (hS : Sing w) (ha : a < 4294967296) (hb : b < 4294967296) :
    Calls Tryd.prog 9 #[.int .u32 a, .int .u32 b] w fun e w' => e = .returned (.tuple #[.int .i64 (cmpC a b), .bool (okC a b)]) ∧ Fresh w w' := by
  have HA := show Hid _ from fun X (hX : Sing X) => isNone_any a X hX ha
  have HB := show Hid _ from fun X (hX : Sing X) => isNone_any b X hX hb
  unfold cmpC okC
  by_cases na : bE a = 255 ∧ bF a ≠ 0
  · rw [decide_eq_true na] at HA ⊢
    rw [Bool.true_or, Bool.not_true, if_neg (by simp)]
    clear HB na
    go_enter Tryd.func9, Tryd.ntmps9
    go_wp2_with fail
    refine (HA.out _ hS).mono ?_
    rintro r w1 ⟨rfl, h1⟩
    go_wp2
    go_ret2
    exact ⟨rfl, h1⟩
  · rw [decide_eq_false na] at HA ⊢
    by_cases nb : bE b = 255 ∧ bF b ≠ 0
    · rw [decide_eq_true nb] at HB ⊢
      rw [Bool.or_true, Bool.not_true, if_neg (by simp)]
      clear na nb
      go_enter Tryd.func9, Tryd.ntmps9
      go_wp2_with fail
      refine (HA.out _ hS).mono ?_
      rintro r w1 ⟨rfl, h1⟩
      go_wp2_with fail
      refine (HB.out _ (hS.fresh h1)).mono ?_
      rintro r w2 ⟨rfl, h2⟩
      go_wp2
      go_ret2
      exact ⟨rfl, h1.trans h2 (fun _ _ e => e)⟩
    · rw [decide_eq_false nb] at HB ⊢
      rw [Bool.or_false, Bool.not_false, if_pos rfl]
      have HC := show Hid _ from fun X => cmp_any a b X ⟨ha, na⟩ ⟨hb, nb⟩
      generalize cmp3 (vl a) (vl b) = C at *
      clear na nb
      go_enter Tryd.func9, Tryd.ntmps9
      go_wp2_with fail
      refine (HA.out _ hS).mono ?_
      rintro r w1 ⟨rfl, h1⟩
      go_wp2_with fail
      refine (HB.out _ (hS.fresh h1)).mono ?_
      rintro r w2 ⟨rfl, h2⟩
      go_wp2_with fail
      refine (number_any _ _).mono ?_
      rintro r w3 ⟨rfl, rfl⟩
      go_wp2_with fail
      refine (number_any _ _).mono ?_
      rintro r w4 ⟨rfl, rfl⟩
      go_wp2_with fail
      refine (HC.out _).mono ?_
      rintro r w5 ⟨rfl, rfl⟩
      go_wp2
      go_ret2
      exact ⟨rfl, h1.trans h2 (fun _ _ e => e)⟩

end Go.Proofs.YtagbjlkpmjbfnabDoor
