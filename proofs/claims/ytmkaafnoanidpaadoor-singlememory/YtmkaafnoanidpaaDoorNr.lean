/-
  'shifted' and 'near' of the program: the nearest whole number, the nearest float of a format.
-/
import Derived.Test.YtmkaafnoanidpaaDoorFm
import Derived.Test.YtmkaafnoanidpaaDoorShL
namespace Go.Proofs.YtmkaafnoanidpaaDoor
open Go.RowKit Ieee

set_option maxHeartbeats 1000000 in
theorem shifted_up (m k : Nat) (w : World) (hk : k < 64) (h : m * 2 ^ k < 18446744073709551616) :
    Calls Tryd.prog 57 #[.int .u64 m, .int .i64 k] w fun e w' => e = .returned (.int .u64 ((m * 2 ^ k : Nat) : Int)) ∧ Fresh w w' := by
  have e2 : (m : Int) * 2 ^ k = ((m * 2 ^ k : Nat) : Int) := by simp
  have e1 : IntKind.u64.wrap ((m : Int) * 2 ^ k) = (m : Int) * 2 ^ k := by
    rw [IntKind.wrap_u64, e2]
    omega
  rw [← e2]
  clear e2
  go_enter Tryd.func57, Tryd.ntmps57
  go_wp2
  go_ret
  exact ⟨rfl, Kept.refl _ _⟩

set_option maxHeartbeats 1000000 in
theorem shifted_far (m d : Nat) (w : World) (hd : 64 < d) (hd2 : d < 100000) :
    Calls Tryd.prog 57 #[.int .u64 m, .int .i64 (-(d : Int))] w fun e w' => e = .returned (.int .u64 0) ∧ Fresh w w' := by
  go_enter Tryd.func57, Tryd.ntmps57
  go_wp2
  go_ret
  exact ⟨rfl, Kept.refl _ _⟩

theorem rne_cases (m d Q r H : Nat) (hQ : Q = m / 2 ^ d) (hr : r = m % 2 ^ d) (hH : 2 * H = 2 ^ d) : (rne m d = Q + 1 ∧ (H < r ∨ (r = H ∧ Q % 2 = 1))) ∨ (rne m d = Q ∧ (r < H ∨ (r = H ∧ Q % 2 = 0))) := by
  unfold rne
  rw [← hQ, ← hr, ← hH]
  by_cases h1 : H < r
  · left; exact ⟨by rw [if_pos (by omega)], .inl h1⟩
  · by_cases h2 : r = H
    · by_cases h3 : Q % 2 = 1
      · left; exact ⟨by rw [if_pos (by omega)], .inr ⟨h2, h3⟩⟩
      · right; exact ⟨by rw [if_neg (by omega)]; rfl, .inr ⟨h2, by omega⟩⟩
    · right; exact ⟨by rw [if_neg (by omega)]; rfl, .inl (by omega)⟩
theorem and_one_u64 (n : Nat) (h : n < 18446744073709551616) : bits .and .u64 (n : Int) 1 = ((n % 2 : Nat) : Int) := by
  have := bits_and_u64_nat n 1 h (by omega)
  rw [show ((1 : Nat) : Int) = 1 from rfl] at this
  rw [this, Nat.and_one_is_mod]

set_option maxHeartbeats 2000000 in
theorem shifted_down (m d : Nat) (w : World) (hm : m < 18446744073709551616) (hd : 1 ≤ d) (hd2 : d ≤ 64) :
    Calls Tryd.prog 57 #[.int .u64 m, .int .i64 (-(d : Int))] w fun e w' => e = .returned (.int .u64 (rne m d)) ∧ Fresh w w' := by
  obtain ⟨Q, hQ⟩ : ∃ Q, Q = m / 2 ^ d := ⟨_, rfl⟩
  obtain ⟨r, hr⟩ : ∃ r, r = m % 2 ^ d := ⟨_, rfl⟩
  obtain ⟨H, hH⟩ : ∃ H, H = 2 ^ (d - 1) := ⟨_, rfl⟩
  have hH2 : 2 * H = 2 ^ d := by rw [hH, show d = d - 1 + 1 by omega, Nat.pow_succ, Nat.add_sub_cancel, Nat.mul_comm]
  have hp : 2 ^ d ≤ 2 ^ 64 := Nat.pow_le_pow_right (by omega) hd2
  have hdm := Nat.div_add_mod m (2 ^ d)
  have hrl : m % 2 ^ d < 2 ^ d := Nat.mod_lt _ (Nat.two_pow_pos d)
  rw [← hQ, ← hr] at hdm
  rw [← hr] at hrl
  have hc := rne_cases m d Q r H hQ hr hH2
  have hQ2 : Q < 9223372036854775808 := by
    rw [hQ, Nat.div_lt_iff_lt_mul (Nat.two_pow_pos d)]
    have : 2 ^ 1 ≤ 2 ^ d := Nat.pow_le_pow_right (by omega) hd
    have : 9223372036854775808 * 2 ^ 1 ≤ 9223372036854775808 * 2 ^ d := Nat.mul_le_mul_left _ this
    omega
  have a1 : (m : Int) / 2 ^ d = (Q : Int) := by rw [hQ]; simp
  obtain ⟨P, hP⟩ : ∃ P, P = Q * 2 ^ d := ⟨_, rfl⟩
  rw [Nat.mul_comm, ← hP] at hdm
  have a2 : IntKind.u64.wrap ((Q : Int) * 2 ^ d) = (P : Int) := by
    have : (Q : Int) * 2 ^ d = (P : Int) := by rw [hP]; simp
    rw [IntKind.wrap_u64, this]
    omega
  have a3 : IntKind.u64.wrap ((m : Int) - (P : Int)) = (r : Int) := by rw [IntKind.wrap_u64]; omega
  have a4 : IntKind.u64.wrap ((2 : Int) ^ (d - 1)) = (H : Int) := by
    have : (2 : Int) ^ (d - 1) = (H : Int) := by rw [hH]; simp
    rw [IntKind.wrap_u64, this]
    omega
  have a5 := and_one_u64 Q (by omega)
  clear hQ hr hH hH2 hp hdm hrl hP
  rcases hc with ⟨hv, hc | ⟨rfl, hc⟩⟩ | ⟨hv, hc | ⟨rfl, hc⟩⟩
  · rw [hv]
    have c1 : (H : Int) < (r : Int) := by omega
    clear hv hc
    go_enter Tryd.func57, Tryd.ntmps57
    go_wp2
    go_region
    go_wp2
    go_ret
    exact ⟨by simp, (Kept.refl _ _).drew⟩
  · rw [hv]
    have c3 : ((Q % 2 : Nat) : Int) = 1 := by omega
    clear hv hc
    go_enter Tryd.func57, Tryd.ntmps57
    go_wp2
    go_region
    go_wp2
    go_ret
    exact ⟨by simp, (Kept.refl _ _).drew⟩
  · rw [hv]
    have c1 : (r : Int) < (H : Int) := by omega
    clear hv hc
    go_enter Tryd.func57, Tryd.ntmps57
    go_wp2
    go_region
    go_wp2
    go_ret
    exact ⟨by simp, (Kept.refl _ _).drew⟩
  · rw [hv]
    have c3 : ((Q % 2 : Nat) : Int) = 0 := by omega
    clear hv hc
    go_enter Tryd.func57, Tryd.ntmps57
    go_wp2
    go_region
    go_wp2
    go_ret
    exact ⟨by simp, (Kept.refl _ _).drew⟩

theorem shifted_any (m : Nat) (k : Int) (w : World) (hm : m < 18446744073709551616) (h1 : -100000 < k) (h2 : k < 64) (h : m * 2 ^ k.toNat < 18446744073709551616) :
    Calls Tryd.prog 57 #[.int .u64 m, .int .i64 k] w fun e w' => e = .returned (.int .u64 (rne (m * 2 ^ k.toNat) (-k).toNat : Nat)) ∧ Fresh w w' := by
  rcases Int.lt_or_le k 0 with hk | hk
  · rw [show k.toNat = 0 by omega, Nat.pow_zero, Nat.mul_one]
    obtain ⟨d, rfl⟩ : ∃ d : Nat, k = -(d : Int) := ⟨(-k).toNat, by omega⟩
    rw [show (- -(d : Int)).toNat = d by omega]
    rcases Nat.lt_or_ge 64 d with hd | hd
    · have : m.log2 ≤ 63 := log2_64 hm
      rw [rne_far (by omega)]
      exact shifted_far m d w hd (by omega)
    · exact shifted_down m d w hm (by omega) hd
  · obtain ⟨d, rfl⟩ : ∃ d : Nat, k = (d : Int) := ⟨k.toNat, by omega⟩
    rw [show (-(d : Int)).toNat = 0 by omega, rne_zero]
    rw [show ((d : Int)).toNat = d by omega] at h ⊢
    exact shifted_up m d w (by omega) h

theorem BoxAt.drew {b : Nat} {e f : Int} {W0 W : World} (h : BoxAt b e f W0 W) : BoxAt b e f W0 W.drew := BoxAt.fresh h (Kept.refl _ _).drew
theorem bits_or_u32_nat (a b : Nat) (ha : a < 4294967296) (hb : b < 4294967296) : bits .or .u32 (a : Int) (b : Int) = ((a ||| b : Nat) : Int) := by
  have hx : a ||| b < 2 ^ 32 := Nat.or_lt_two_pow (by omega) (by omega)
  have h1 : (BitVec.ofInt 32 (a : Int)).toNat = a := by
    rw [BitVec.ofInt_natCast, BitVec.toNat_ofNat]; exact Nat.mod_eq_of_lt (by omega)
  have h2 : (BitVec.ofInt 32 (b : Int)).toNat = b := by
    rw [BitVec.ofInt_natCast, BitVec.toNat_ofNat]; exact Nat.mod_eq_of_lt (by omega)
  show IntKind.u32.wrap ((BitVec.ofInt 32 (a : Int) ||| BitVec.ofInt 32 (b : Int)).toNat : Int) = _
  rw [BitVec.toNat_or, h1, h2, show IntKind.u32.wrap (((a ||| b : Nat)) : Int) = ((a ||| b : Nat) : Int) % 4294967296 by simp [IntKind.wrap, IntKind.signed, IntKind.bits]]
  omega
theorem or_zero_u32 (z : Nat) (h : z < 4294967296) : bits .or .u32 0 (z : Int) = (z : Int) := by
  have := bits_or_u32_nat 0 z (by omega) h
  rw [Nat.zero_or] at this
  exact this
theorem or_top_u32 (s z : Nat) (h : z < 2 ^ s) (hs : s < 32) : bits .or .u32 ((2 ^ s : Nat) : Int) (z : Int) = ((2 ^ s : Nat) : Int) + (z : Int) := by
  have hp : 2 ^ s < 2 ^ 32 := Nat.pow_lt_pow_right (by omega) hs
  rw [bits_or_u32_nat _ _ (by omega) (by omega)]
  have := Nat.shiftLeft_add_eq_or_of_lt (i := s) h 1
  rw [Nat.shiftLeft_eq, Nat.one_mul] at this
  rw [← this]
  exact Int.natCast_add _ _
theorem bitLenAux_log2 : ∀ (k m : Nat), m ≠ 0 → m < 2 ^ k → Lib.bitLenAux k m = m.log2 + 1
  | 0, m, h, hk => by omega
  | k + 1, m, h, hk => by
    unfold Lib.bitLenAux
    rw [if_neg h, Nat.log2_def]
    rw [Nat.pow_succ] at hk
    by_cases h2 : m ≥ 2
    · rw [if_pos h2, bitLenAux_log2 k (m / 2) (by omega) (by omega)]; omega
    · rw [if_neg h2, show m / 2 = 0 by omega]
      cases k <;> simp [Lib.bitLenAux]
theorem bitLen_log2 {m : Nat} (h : m ≠ 0) (hm : m < 18446744073709551616) : Lib.bitLen m = m.log2 + 1 := bitLenAux_log2 64 m h hm
theorem len64_any (m L : Nat) (w : World) (hm : m < 18446744073709551616) (hL : Lib.bitLen m = L) :
    Calls Tryd.prog 55 #[.int .u64 m] w fun e w' => e = .returned (.int .i64 L) ∧ w' = w := by
  have h := bits_Len64 m w (by omega) (by omega)
  rw [Int.toNat_natCast, hL] at h
  exact h

/-- What 'near' keeps has room. -/
theorem kept_room {m : Nat} {E l f : Int} {L : Nat} (hm64 : m < 18446744073709551616) (hm : m ≠ 0) (hL : L = m.log2 + 1) (hl : E + L - f - 1 ≤ l) (hf : 0 ≤ f ∧ f ≤ 23) : m * 2 ^ (E - l).toNat < 18446744073709551616 ∧ E - l < 64 := by
  constructor
  · have g := log2_hi (m * 2 ^ (E - l).toNat)
    rw [log2_mul_pow hm] at g
    rcases Int.lt_or_le E l with h | h
    · rw [show (E - l).toNat = 0 by omega, Nat.pow_zero, Nat.mul_one]; exact hm64
    · exact Nat.lt_of_lt_of_le g (Nat.le_trans (Nat.pow_le_pow_right (by omega) (show m.log2 + (E - l).toNat + 1 ≤ 24 by omega)) (by decide))
  · omega

set_option maxHeartbeats 4000000 in
theorem near_single (neg : Bool) (m : Nat) (e : Int) (w : World) (hm : m < 18446744073709551616) (h0 : m ≠ 0) :
    Calls Tryd.prog 48 #[fmtV 8 23, .bool neg, .int .u64 m, .int .i64 e] w fun r w' => r = .returned (.int .u32 (single.nearest neg m e : Nat)) ∧ Fresh w w' := by
  have hB := BoxAt.new w 8 23 71
  have hm0 : ((m : Int) == 0) = false := by simp; omega
  obtain ⟨⟨q0, q1⟩, q2⟩ := id hB
  obtain ⟨L, hL⟩ : ∃ L, Lib.bitLen m = L := ⟨_, rfl⟩
  have hL0 := bitLen_log2 h0 hm
  rw [hL] at hL0
  have hL1 : 1 ≤ L := by omega
  have hL2 : L ≤ 64 := by have := log2_64 hm; omega
  have hRc := rung_clamp nice_single e h0 hm
  rw [nearest_rung, ← hRc]
  have hE1 : -1024 ≤ min (max e (-1024)) 1024 := by omega
  have hE2 : min (max e (-1024)) 1024 ≤ 1024 := by omega
  obtain ⟨E, hE⟩ : ∃ E, min (max e (-1024)) 1024 = E := ⟨_, rfl⟩
  rw [hE] at hE1 hE2 ⊢
  clear hRc
  have hR : ∃ (l : Int) (k q : Nat), l = max (E + L - 23 - 1) (-149) ∧ l = (k : Int) + (-149) ∧ q = rne (m * 2 ^ (E - l).toNat) (-(E - l)).toNat ∧ m * 2 ^ (E - l).toNat < 18446744073709551616 ∧ E - l < 64 ∧ -100000 < E - l ∧ q ≤ 16777216 ∧ k < 2000 ∧ rung single m E = min (k * 8388608 + q) 2139095040 := by
    have hl : lastOf single m E = max (E + L - 23 - 1) (-149) := by
      show max (E + (m.log2 : Int) - (23 : Nat)) (-149) = _
      omega
    obtain ⟨k, hk⟩ : ∃ k : Nat, lastOf single m E = (k : Int) + (-149) := ⟨(lastOf single m E - (-149)).toNat, by omega⟩
    have hr := kept_room (E := E) (f := 23) (l := lastOf single m E) hm h0 hL0 (by omega) (by omega)
    refine ⟨_, k, _, hl, hk, rfl, hr.1, hr.2, by omega, ?_, by omega, ?_⟩
    · have := kept_hi single E h0
      rw [show -(E - lastOf single m E) = lastOf single m E - E by omega]
      exact this
    · unfold rung
      rw [if_neg h0, show -(E - lastOf single m E) = lastOf single m E - E by omega]
      have c1 : single.leastPlace = -149 := by decide
      have c2 : single.binade = 8388608 := by decide
      have c3 : single.infRung = 2139095040 := by decide
      rw [c1, c2, c3, show (lastOf single m E - (-149)).toNat = k by omega]
  obtain ⟨l, k, q, hl, hk, hq, hr1, hr2, hr3, hq2, hk2, hrung⟩ := hR
  rw [hrung]
  obtain ⟨A1, hA1, a1⟩ : ∃ A, A = E + (L : Int) ∧ IntKind.i64.wrap (E + (L : Int)) = A := ⟨_, rfl, by rw [IntKind.wrap_i64]; omega⟩
  obtain ⟨A2, hA2, a2⟩ : ∃ A, A = A1 - 23 ∧ IntKind.i64.wrap (A1 - 23) = A := ⟨_, rfl, by rw [IntKind.wrap_i64]; omega⟩
  obtain ⟨A3, hA3, a3⟩ : ∃ A, A = A2 - 1 ∧ IntKind.i64.wrap (A2 - 1) = A := ⟨_, rfl, by rw [IntKind.wrap_i64]; omega⟩
  obtain ⟨D, hD, a5⟩ : ∃ D, D = E - l ∧ IntKind.i64.wrap (E - l) = D := ⟨_, rfl, by rw [IntKind.wrap_i64]; omega⟩
  have a4 : max A3 (-149) = l := by omega
  have a6 : IntKind.i64.wrap (l - (-149)) = (k : Int) := by rw [IntKind.wrap_i64]; omega
  have hsh : ∀ X, Calls Tryd.prog 57 #[.int .u64 m, .int .i64 D] X fun e w' => e = .returned (.int .u64 q) ∧ Fresh X w' := fun X => by
    rw [hD, hq]; exact shifted_any m (E - l) X hm hr3 hr2 hr1
  have HSH := show Hid _ from hsh
  have a6' : wrap64 (l + 149) = (k : Int) := by
    rw [← Go.IntWalk.i64_left, show l + 149 = l - (-149) by omega, a6]
  obtain ⟨k8, hk8⟩ : ∃ k8, k8 = k * 8388608 := ⟨_, rfl⟩
  obtain ⟨t, ht⟩ : ∃ t, t = k8 + q := ⟨_, rfl⟩
  obtain ⟨z, hz⟩ : ∃ z, z = min t 2139095040 := ⟨_, rfl⟩
  have a7 : IntKind.u64.wrap (k : Int) = (k : Int) := by rw [IntKind.wrap_u64]; omega
  have a8 : IntKind.u64.wrap ((k : Int) * 8388608) = (k8 : Int) := by rw [IntKind.wrap_u64, hk8]; omega
  have a9 : IntKind.u64.wrap ((k8 : Int) + (q : Int)) = (t : Int) := by rw [IntKind.wrap_u64, ht, hk8]; omega
  have a10 : min (t : Int) 2139095040 = (z : Int) := by rw [hz]; omega
  have hz2 : z ≤ 2139095040 := by rw [hz]; omega
  have a11 : bits .or .u32 0 (z : Int) = (z : Int) := or_zero_u32 z (by omega)
  have a12 : bits .or .u32 2147483648 (z : Int) = 2147483648 + (z : Int) := or_top_u32 31 z (by omega) (by decide)
  have a13 : (z : Int) % 4294967296 = (z : Int) := by omega
  rw [← hk8, ← ht, ← hz]
  clear hk8 ht hz
  clear hL0 hA1 hA2 hA3 hsh hl hk hq hr1 hr2 hr3 hrung hq2 hD q0 q1 q2
  cases neg
  · go_enter Tryd.func48, Tryd.ntmps48
    go_wp2_with fail
    generalize w.alloc (Obj.cells #[Value.int IntKind.i64 8, Value.int IntKind.i64 23] 71) = W at *
    go_region_held3 (fun X => (X.cell? ⟨w.heap.size, 0, none⟩ = some (.int .i64 8) ∧ X.cell? ⟨w.heap.size, 1, none⟩ = some (.int .i64 23)) ∧ Fresh w X) (first | exact BoxAt.drew hB | exact hS' | assumption) (first | (go_at_call 55; refine (len64_any m L _ hm hL).mono ?_; rintro r X ⟨rfl, rfl⟩) | (go_at_call 56; refine (least_single _).mono ?_; rintro r X ⟨rfl, hX⟩; have hS' : BoxAt w.heap.size 8 23 w X := BoxAt.fresh (by assumption) hX))
    clear hB
    rename_i hB
    go_wp2_with fail
    refine (HSH.out _).mono ?_
    rintro r Y ⟨rfl, hY⟩
    replace hB := BoxAt.fresh hB hY
    go_wp2_with fail
    go_region_held3 (fun X => (X.cell? ⟨w.heap.size, 0, none⟩ = some (.int .i64 8) ∧ X.cell? ⟨w.heap.size, 1, none⟩ = some (.int .i64 23)) ∧ Fresh w X) (first | exact BoxAt.drew hB | exact hS' | assumption) (first | (go_at_call 56; refine (least_single _).mono ?_; rintro r X ⟨rfl, hX⟩; have hS' : BoxAt w.heap.size 8 23 w X := BoxAt.fresh (by assumption) hX))
    clear hB
    rename_i hB
    obtain ⟨⟨q0, q1⟩, q2⟩ := id hB
    go_wp2_with fail
    refine (infinite_single _).mono ?_
    rintro r Z ⟨rfl, hZ⟩
    go_wp2
    go_ret
    exact ⟨by simp [Format.word, a6', a7, a8, a9, a10], q2.trans hZ (fun _ _ e => e)⟩
  · have a14 : ((single.word true z : Nat) : Int) = 2147483648 + (z : Int) := by
      show ((single.signWeight + z : Nat) : Int) = _
      have c : single.signWeight = 2147483648 := by decide
      rw [c]; omega
    rw [a14]
    go_enter Tryd.func48, Tryd.ntmps48
    go_wp2_with fail
    refine (sign_single _).mono ?_
    rintro r W1 ⟨rfl, hW1⟩
    replace hB := BoxAt.fresh hB hW1
    go_wp2_with fail
    go_region_held3 (fun X => (X.cell? ⟨w.heap.size, 0, none⟩ = some (.int .i64 8) ∧ X.cell? ⟨w.heap.size, 1, none⟩ = some (.int .i64 23)) ∧ Fresh w X) (first | exact BoxAt.drew hB | exact hS' | assumption) (first | (go_at_call 55; refine (len64_any m L _ hm hL).mono ?_; rintro r X ⟨rfl, rfl⟩) | (go_at_call 56; refine (least_single _).mono ?_; rintro r X ⟨rfl, hX⟩; have hS' : BoxAt w.heap.size 8 23 w X := BoxAt.fresh (by assumption) hX))
    clear hB
    rename_i hB
    go_wp2_with fail
    refine (HSH.out _).mono ?_
    rintro r Y ⟨rfl, hY⟩
    replace hB := BoxAt.fresh hB hY
    go_wp2_with fail
    go_region_held3 (fun X => (X.cell? ⟨w.heap.size, 0, none⟩ = some (.int .i64 8) ∧ X.cell? ⟨w.heap.size, 1, none⟩ = some (.int .i64 23)) ∧ Fresh w X) (first | exact BoxAt.drew hB | exact hS' | assumption) (first | (go_at_call 56; refine (least_single _).mono ?_; rintro r X ⟨rfl, hX⟩; have hS' : BoxAt w.heap.size 8 23 w X := BoxAt.fresh (by assumption) hX))
    clear hB
    rename_i hB
    obtain ⟨⟨q0, q1⟩, q2⟩ := id hB
    go_wp2_with fail
    refine (infinite_single _).mono ?_
    rintro r Z ⟨rfl, hZ⟩
    go_wp2
    go_ret
    exact ⟨by simp [a6', a7, a8, a9, a10], q2.trans hZ (fun _ _ e => e)⟩

set_option maxHeartbeats 4000000 in
theorem near_half (neg : Bool) (m : Nat) (e : Int) (w : World) (hm : m < 18446744073709551616) (h0 : m ≠ 0) :
    Calls Tryd.prog 48 #[fmtV 5 10, .bool neg, .int .u64 m, .int .i64 e] w fun r w' => r = .returned (.int .u32 (half.nearest neg m e : Nat)) ∧ Fresh w w' := by
  have hB := BoxAt.new w 5 10 71
  have hm0 : ((m : Int) == 0) = false := by simp; omega
  obtain ⟨⟨q0, q1⟩, q2⟩ := id hB
  obtain ⟨L, hL⟩ : ∃ L, Lib.bitLen m = L := ⟨_, rfl⟩
  have hL0 := bitLen_log2 h0 hm
  rw [hL] at hL0
  have hL1 : 1 ≤ L := by omega
  have hL2 : L ≤ 64 := by have := log2_64 hm; omega
  have hRc := rung_clamp nice_half e h0 hm
  rw [nearest_rung, ← hRc]
  have hE1 : -1024 ≤ min (max e (-1024)) 1024 := by omega
  have hE2 : min (max e (-1024)) 1024 ≤ 1024 := by omega
  obtain ⟨E, hE⟩ : ∃ E, min (max e (-1024)) 1024 = E := ⟨_, rfl⟩
  rw [hE] at hE1 hE2 ⊢
  clear hRc
  have hR : ∃ (l : Int) (k q : Nat), l = max (E + L - 10 - 1) (-24) ∧ l = (k : Int) + (-24) ∧ q = rne (m * 2 ^ (E - l).toNat) (-(E - l)).toNat ∧ m * 2 ^ (E - l).toNat < 18446744073709551616 ∧ E - l < 64 ∧ -100000 < E - l ∧ q ≤ 2048 ∧ k < 2000 ∧ rung half m E = min (k * 1024 + q) 31744 := by
    have hl : lastOf half m E = max (E + L - 10 - 1) (-24) := by
      show max (E + (m.log2 : Int) - (10 : Nat)) (-24) = _
      omega
    obtain ⟨k, hk⟩ : ∃ k : Nat, lastOf half m E = (k : Int) + (-24) := ⟨(lastOf half m E - (-24)).toNat, by omega⟩
    have hr := kept_room (E := E) (f := 10) (l := lastOf half m E) hm h0 hL0 (by omega) (by omega)
    refine ⟨_, k, _, hl, hk, rfl, hr.1, hr.2, by omega, ?_, by omega, ?_⟩
    · have := kept_hi half E h0
      rw [show -(E - lastOf half m E) = lastOf half m E - E by omega]
      exact this
    · unfold rung
      rw [if_neg h0, show -(E - lastOf half m E) = lastOf half m E - E by omega]
      have c1 : half.leastPlace = -24 := by decide
      have c2 : half.binade = 1024 := by decide
      have c3 : half.infRung = 31744 := by decide
      rw [c1, c2, c3, show (lastOf half m E - (-24)).toNat = k by omega]
  obtain ⟨l, k, q, hl, hk, hq, hr1, hr2, hr3, hq2, hk2, hrung⟩ := hR
  rw [hrung]
  obtain ⟨A1, hA1, a1⟩ : ∃ A, A = E + (L : Int) ∧ IntKind.i64.wrap (E + (L : Int)) = A := ⟨_, rfl, by rw [IntKind.wrap_i64]; omega⟩
  obtain ⟨A2, hA2, a2⟩ : ∃ A, A = A1 - 10 ∧ IntKind.i64.wrap (A1 - 10) = A := ⟨_, rfl, by rw [IntKind.wrap_i64]; omega⟩
  obtain ⟨A3, hA3, a3⟩ : ∃ A, A = A2 - 1 ∧ IntKind.i64.wrap (A2 - 1) = A := ⟨_, rfl, by rw [IntKind.wrap_i64]; omega⟩
  obtain ⟨D, hD, a5⟩ : ∃ D, D = E - l ∧ IntKind.i64.wrap (E - l) = D := ⟨_, rfl, by rw [IntKind.wrap_i64]; omega⟩
  have a4 : max A3 (-24) = l := by omega
  have a6 : IntKind.i64.wrap (l - (-24)) = (k : Int) := by rw [IntKind.wrap_i64]; omega
  have hsh : ∀ X, Calls Tryd.prog 57 #[.int .u64 m, .int .i64 D] X fun e w' => e = .returned (.int .u64 q) ∧ Fresh X w' := fun X => by
    rw [hD, hq]; exact shifted_any m (E - l) X hm hr3 hr2 hr1
  have HSH := show Hid _ from hsh
  have a6' : wrap64 (l + 24) = (k : Int) := by
    rw [← Go.IntWalk.i64_left, show l + 24 = l - (-24) by omega, a6]
  obtain ⟨k8, hk8⟩ : ∃ k8, k8 = k * 1024 := ⟨_, rfl⟩
  obtain ⟨t, ht⟩ : ∃ t, t = k8 + q := ⟨_, rfl⟩
  obtain ⟨z, hz⟩ : ∃ z, z = min t 31744 := ⟨_, rfl⟩
  have a7 : IntKind.u64.wrap (k : Int) = (k : Int) := by rw [IntKind.wrap_u64]; omega
  have a8 : IntKind.u64.wrap ((k : Int) * 1024) = (k8 : Int) := by rw [IntKind.wrap_u64, hk8]; omega
  have a9 : IntKind.u64.wrap ((k8 : Int) + (q : Int)) = (t : Int) := by rw [IntKind.wrap_u64, ht, hk8]; omega
  have a10 : min (t : Int) 31744 = (z : Int) := by rw [hz]; omega
  have hz2 : z ≤ 31744 := by rw [hz]; omega
  have a11 : bits .or .u32 0 (z : Int) = (z : Int) := or_zero_u32 z (by omega)
  have a12 : bits .or .u32 32768 (z : Int) = 32768 + (z : Int) := or_top_u32 15 z (by omega) (by decide)
  have a13 : (z : Int) % 4294967296 = (z : Int) := by omega
  rw [← hk8, ← ht, ← hz]
  clear hk8 ht hz
  clear hL0 hA1 hA2 hA3 hsh hl hk hq hr1 hr2 hr3 hrung hq2 hD q0 q1 q2
  cases neg
  · go_enter Tryd.func48, Tryd.ntmps48
    go_wp2_with fail
    generalize w.alloc (Obj.cells #[Value.int IntKind.i64 5, Value.int IntKind.i64 10] 71) = W at *
    go_region_held3 (fun X => (X.cell? ⟨w.heap.size, 0, none⟩ = some (.int .i64 5) ∧ X.cell? ⟨w.heap.size, 1, none⟩ = some (.int .i64 10)) ∧ Fresh w X) (first | exact BoxAt.drew hB | exact hS' | assumption) (first | (go_at_call 55; refine (len64_any m L _ hm hL).mono ?_; rintro r X ⟨rfl, rfl⟩) | (go_at_call 56; refine (least_half _).mono ?_; rintro r X ⟨rfl, hX⟩; have hS' : BoxAt w.heap.size 5 10 w X := BoxAt.fresh (by assumption) hX))
    clear hB
    rename_i hB
    go_wp2_with fail
    refine (HSH.out _).mono ?_
    rintro r Y ⟨rfl, hY⟩
    replace hB := BoxAt.fresh hB hY
    go_wp2_with fail
    go_region_held3 (fun X => (X.cell? ⟨w.heap.size, 0, none⟩ = some (.int .i64 5) ∧ X.cell? ⟨w.heap.size, 1, none⟩ = some (.int .i64 10)) ∧ Fresh w X) (first | exact BoxAt.drew hB | exact hS' | assumption) (first | (go_at_call 56; refine (least_half _).mono ?_; rintro r X ⟨rfl, hX⟩; have hS' : BoxAt w.heap.size 5 10 w X := BoxAt.fresh (by assumption) hX))
    clear hB
    rename_i hB
    obtain ⟨⟨q0, q1⟩, q2⟩ := id hB
    go_wp2_with fail
    refine (infinite_half _).mono ?_
    rintro r Z ⟨rfl, hZ⟩
    go_wp2
    go_ret
    exact ⟨by simp [Format.word, a6', a7, a8, a9, a10], q2.trans hZ (fun _ _ e => e)⟩
  · have a14 : ((half.word true z : Nat) : Int) = 32768 + (z : Int) := by
      show ((half.signWeight + z : Nat) : Int) = _
      have c : half.signWeight = 32768 := by decide
      rw [c]; omega
    rw [a14]
    go_enter Tryd.func48, Tryd.ntmps48
    go_wp2_with fail
    refine (sign_half _).mono ?_
    rintro r W1 ⟨rfl, hW1⟩
    replace hB := BoxAt.fresh hB hW1
    go_wp2_with fail
    go_region_held3 (fun X => (X.cell? ⟨w.heap.size, 0, none⟩ = some (.int .i64 5) ∧ X.cell? ⟨w.heap.size, 1, none⟩ = some (.int .i64 10)) ∧ Fresh w X) (first | exact BoxAt.drew hB | exact hS' | assumption) (first | (go_at_call 55; refine (len64_any m L _ hm hL).mono ?_; rintro r X ⟨rfl, rfl⟩) | (go_at_call 56; refine (least_half _).mono ?_; rintro r X ⟨rfl, hX⟩; have hS' : BoxAt w.heap.size 5 10 w X := BoxAt.fresh (by assumption) hX))
    clear hB
    rename_i hB
    go_wp2_with fail
    refine (HSH.out _).mono ?_
    rintro r Y ⟨rfl, hY⟩
    replace hB := BoxAt.fresh hB hY
    go_wp2_with fail
    go_region_held3 (fun X => (X.cell? ⟨w.heap.size, 0, none⟩ = some (.int .i64 5) ∧ X.cell? ⟨w.heap.size, 1, none⟩ = some (.int .i64 10)) ∧ Fresh w X) (first | exact BoxAt.drew hB | exact hS' | assumption) (first | (go_at_call 56; refine (least_half _).mono ?_; rintro r X ⟨rfl, hX⟩; have hS' : BoxAt w.heap.size 5 10 w X := BoxAt.fresh (by assumption) hX))
    clear hB
    rename_i hB
    obtain ⟨⟨q0, q1⟩, q2⟩ := id hB
    go_wp2_with fail
    refine (infinite_half _).mono ?_
    rintro r Z ⟨rfl, hZ⟩
    go_wp2
    go_ret
    exact ⟨by simp [a6', a7, a8, a9, a10], q2.trans hZ (fun _ _ e => e)⟩

set_option maxHeartbeats 4000000 in
theorem near_brain (neg : Bool) (m : Nat) (e : Int) (w : World) (hm : m < 18446744073709551616) (h0 : m ≠ 0) :
    Calls Tryd.prog 48 #[fmtV 8 7, .bool neg, .int .u64 m, .int .i64 e] w fun r w' => r = .returned (.int .u32 (brain.nearest neg m e : Nat)) ∧ Fresh w w' := by
  have hB := BoxAt.new w 8 7 71
  have hm0 : ((m : Int) == 0) = false := by simp; omega
  obtain ⟨⟨q0, q1⟩, q2⟩ := id hB
  obtain ⟨L, hL⟩ : ∃ L, Lib.bitLen m = L := ⟨_, rfl⟩
  have hL0 := bitLen_log2 h0 hm
  rw [hL] at hL0
  have hL1 : 1 ≤ L := by omega
  have hL2 : L ≤ 64 := by have := log2_64 hm; omega
  have hRc := rung_clamp nice_brain e h0 hm
  rw [nearest_rung, ← hRc]
  have hE1 : -1024 ≤ min (max e (-1024)) 1024 := by omega
  have hE2 : min (max e (-1024)) 1024 ≤ 1024 := by omega
  obtain ⟨E, hE⟩ : ∃ E, min (max e (-1024)) 1024 = E := ⟨_, rfl⟩
  rw [hE] at hE1 hE2 ⊢
  clear hRc
  have hR : ∃ (l : Int) (k q : Nat), l = max (E + L - 7 - 1) (-133) ∧ l = (k : Int) + (-133) ∧ q = rne (m * 2 ^ (E - l).toNat) (-(E - l)).toNat ∧ m * 2 ^ (E - l).toNat < 18446744073709551616 ∧ E - l < 64 ∧ -100000 < E - l ∧ q ≤ 256 ∧ k < 2000 ∧ rung brain m E = min (k * 128 + q) 32640 := by
    have hl : lastOf brain m E = max (E + L - 7 - 1) (-133) := by
      show max (E + (m.log2 : Int) - (7 : Nat)) (-133) = _
      omega
    obtain ⟨k, hk⟩ : ∃ k : Nat, lastOf brain m E = (k : Int) + (-133) := ⟨(lastOf brain m E - (-133)).toNat, by omega⟩
    have hr := kept_room (E := E) (f := 7) (l := lastOf brain m E) hm h0 hL0 (by omega) (by omega)
    refine ⟨_, k, _, hl, hk, rfl, hr.1, hr.2, by omega, ?_, by omega, ?_⟩
    · have := kept_hi brain E h0
      rw [show -(E - lastOf brain m E) = lastOf brain m E - E by omega]
      exact this
    · unfold rung
      rw [if_neg h0, show -(E - lastOf brain m E) = lastOf brain m E - E by omega]
      have c1 : brain.leastPlace = -133 := by decide
      have c2 : brain.binade = 128 := by decide
      have c3 : brain.infRung = 32640 := by decide
      rw [c1, c2, c3, show (lastOf brain m E - (-133)).toNat = k by omega]
  obtain ⟨l, k, q, hl, hk, hq, hr1, hr2, hr3, hq2, hk2, hrung⟩ := hR
  rw [hrung]
  obtain ⟨A1, hA1, a1⟩ : ∃ A, A = E + (L : Int) ∧ IntKind.i64.wrap (E + (L : Int)) = A := ⟨_, rfl, by rw [IntKind.wrap_i64]; omega⟩
  obtain ⟨A2, hA2, a2⟩ : ∃ A, A = A1 - 7 ∧ IntKind.i64.wrap (A1 - 7) = A := ⟨_, rfl, by rw [IntKind.wrap_i64]; omega⟩
  obtain ⟨A3, hA3, a3⟩ : ∃ A, A = A2 - 1 ∧ IntKind.i64.wrap (A2 - 1) = A := ⟨_, rfl, by rw [IntKind.wrap_i64]; omega⟩
  obtain ⟨D, hD, a5⟩ : ∃ D, D = E - l ∧ IntKind.i64.wrap (E - l) = D := ⟨_, rfl, by rw [IntKind.wrap_i64]; omega⟩
  have a4 : max A3 (-133) = l := by omega
  have a6 : IntKind.i64.wrap (l - (-133)) = (k : Int) := by rw [IntKind.wrap_i64]; omega
  have hsh : ∀ X, Calls Tryd.prog 57 #[.int .u64 m, .int .i64 D] X fun e w' => e = .returned (.int .u64 q) ∧ Fresh X w' := fun X => by
    rw [hD, hq]; exact shifted_any m (E - l) X hm hr3 hr2 hr1
  have HSH := show Hid _ from hsh
  have a6' : wrap64 (l + 133) = (k : Int) := by
    rw [← Go.IntWalk.i64_left, show l + 133 = l - (-133) by omega, a6]
  obtain ⟨k8, hk8⟩ : ∃ k8, k8 = k * 128 := ⟨_, rfl⟩
  obtain ⟨t, ht⟩ : ∃ t, t = k8 + q := ⟨_, rfl⟩
  obtain ⟨z, hz⟩ : ∃ z, z = min t 32640 := ⟨_, rfl⟩
  have a7 : IntKind.u64.wrap (k : Int) = (k : Int) := by rw [IntKind.wrap_u64]; omega
  have a8 : IntKind.u64.wrap ((k : Int) * 128) = (k8 : Int) := by rw [IntKind.wrap_u64, hk8]; omega
  have a9 : IntKind.u64.wrap ((k8 : Int) + (q : Int)) = (t : Int) := by rw [IntKind.wrap_u64, ht, hk8]; omega
  have a10 : min (t : Int) 32640 = (z : Int) := by rw [hz]; omega
  have hz2 : z ≤ 32640 := by rw [hz]; omega
  have a11 : bits .or .u32 0 (z : Int) = (z : Int) := or_zero_u32 z (by omega)
  have a12 : bits .or .u32 32768 (z : Int) = 32768 + (z : Int) := or_top_u32 15 z (by omega) (by decide)
  have a13 : (z : Int) % 4294967296 = (z : Int) := by omega
  rw [← hk8, ← ht, ← hz]
  clear hk8 ht hz
  clear hL0 hA1 hA2 hA3 hsh hl hk hq hr1 hr2 hr3 hrung hq2 hD q0 q1 q2
  cases neg
  · go_enter Tryd.func48, Tryd.ntmps48
    go_wp2_with fail
    generalize w.alloc (Obj.cells #[Value.int IntKind.i64 8, Value.int IntKind.i64 7] 71) = W at *
    go_region_held3 (fun X => (X.cell? ⟨w.heap.size, 0, none⟩ = some (.int .i64 8) ∧ X.cell? ⟨w.heap.size, 1, none⟩ = some (.int .i64 7)) ∧ Fresh w X) (first | exact BoxAt.drew hB | exact hS' | assumption) (first | (go_at_call 55; refine (len64_any m L _ hm hL).mono ?_; rintro r X ⟨rfl, rfl⟩) | (go_at_call 56; refine (least_brain _).mono ?_; rintro r X ⟨rfl, hX⟩; have hS' : BoxAt w.heap.size 8 7 w X := BoxAt.fresh (by assumption) hX))
    clear hB
    rename_i hB
    go_wp2_with fail
    refine (HSH.out _).mono ?_
    rintro r Y ⟨rfl, hY⟩
    replace hB := BoxAt.fresh hB hY
    go_wp2_with fail
    go_region_held3 (fun X => (X.cell? ⟨w.heap.size, 0, none⟩ = some (.int .i64 8) ∧ X.cell? ⟨w.heap.size, 1, none⟩ = some (.int .i64 7)) ∧ Fresh w X) (first | exact BoxAt.drew hB | exact hS' | assumption) (first | (go_at_call 56; refine (least_brain _).mono ?_; rintro r X ⟨rfl, hX⟩; have hS' : BoxAt w.heap.size 8 7 w X := BoxAt.fresh (by assumption) hX))
    clear hB
    rename_i hB
    obtain ⟨⟨q0, q1⟩, q2⟩ := id hB
    go_wp2_with fail
    refine (infinite_brain _).mono ?_
    rintro r Z ⟨rfl, hZ⟩
    go_wp2
    go_ret
    exact ⟨by simp [Format.word, a6', a7, a8, a9, a10], q2.trans hZ (fun _ _ e => e)⟩
  · have a14 : ((brain.word true z : Nat) : Int) = 32768 + (z : Int) := by
      show ((brain.signWeight + z : Nat) : Int) = _
      have c : brain.signWeight = 32768 := by decide
      rw [c]; omega
    rw [a14]
    go_enter Tryd.func48, Tryd.ntmps48
    go_wp2_with fail
    refine (sign_brain _).mono ?_
    rintro r W1 ⟨rfl, hW1⟩
    replace hB := BoxAt.fresh hB hW1
    go_wp2_with fail
    go_region_held3 (fun X => (X.cell? ⟨w.heap.size, 0, none⟩ = some (.int .i64 8) ∧ X.cell? ⟨w.heap.size, 1, none⟩ = some (.int .i64 7)) ∧ Fresh w X) (first | exact BoxAt.drew hB | exact hS' | assumption) (first | (go_at_call 55; refine (len64_any m L _ hm hL).mono ?_; rintro r X ⟨rfl, rfl⟩) | (go_at_call 56; refine (least_brain _).mono ?_; rintro r X ⟨rfl, hX⟩; have hS' : BoxAt w.heap.size 8 7 w X := BoxAt.fresh (by assumption) hX))
    clear hB
    rename_i hB
    go_wp2_with fail
    refine (HSH.out _).mono ?_
    rintro r Y ⟨rfl, hY⟩
    replace hB := BoxAt.fresh hB hY
    go_wp2_with fail
    go_region_held3 (fun X => (X.cell? ⟨w.heap.size, 0, none⟩ = some (.int .i64 8) ∧ X.cell? ⟨w.heap.size, 1, none⟩ = some (.int .i64 7)) ∧ Fresh w X) (first | exact BoxAt.drew hB | exact hS' | assumption) (first | (go_at_call 56; refine (least_brain _).mono ?_; rintro r X ⟨rfl, hX⟩; have hS' : BoxAt w.heap.size 8 7 w X := BoxAt.fresh (by assumption) hX))
    clear hB
    rename_i hB
    obtain ⟨⟨q0, q1⟩, q2⟩ := id hB
    go_wp2_with fail
    refine (infinite_brain _).mono ?_
    rintro r Z ⟨rfl, hZ⟩
    go_wp2
    go_ret
    exact ⟨by simp [a6', a7, a8, a9, a10], q2.trans hZ (fun _ _ e => e)⟩

end Go.Proofs.YtmkaafnoanidpaaDoor
