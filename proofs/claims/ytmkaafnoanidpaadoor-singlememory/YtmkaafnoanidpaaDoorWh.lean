/-
  The document's nearest whole number of m 2^e, up to 127.
-/
import Derived.Test.YtmkaafnoanidpaaDoorKp
import Derived.Test.YtmkaafnoanidpaaDoorRr
import Derived.BigQuiet
namespace Go.Proofs.YtmkaafnoanidpaaDoor
open Go.RowKit Ieee

/-- The whole number, or -1 where it has no room. -/
def whV (m : Nat) (e : Int) : Int := if rnI m e ≤ 127 then (rnI m e : Int) else -1

theorem wh_low {m : Nat} {e : Int} (h : (Go.bitLen m : Int) + e < -1) : rnI m e = 0 := by
  have h1 := (bitLen_spec m).1
  unfold rnI rne
  rw [show e.toNat = 0 by omega, Nat.pow_zero, Nat.mul_one]
  have h2 : 2 ^ (Go.bitLen m) * 2 ^ 2 ≤ 2 ^ (-e).toNat := by
    rw [← Nat.pow_add]; exact Nat.pow_le_pow_right (by omega) (by omega)
  rw [Nat.div_eq_of_lt (by omega), Nat.mod_eq_of_lt (by omega), if_neg (by omega)]
theorem wh_high {m : Nat} {e : Int} (h0 : m ≠ 0) (h : 8 < (Go.bitLen m : Int) + e) : 127 < rnI m e := by
  have h1 := (bitLen_spec m).2 h0
  unfold rnI rne
  have h2 : 256 ≤ m * 2 ^ e.toNat / 2 ^ (-e).toNat := by
    refine (Nat.le_div_iff_mul_le (Nat.two_pow_pos _)).2 ?_
    rcases Int.le_total 0 e with g | g
    · rw [show (-e).toNat = 0 by omega, Nat.pow_zero, Nat.mul_one]
      have h3 : 2 ^ 8 ≤ 2 ^ (Go.bitLen m - 1) * 2 ^ e.toNat := by
        rw [← Nat.pow_add]; exact Nat.pow_le_pow_right (by omega) (by omega)
      exact Nat.le_trans h3 (Nat.mul_le_mul_right _ h1)
    · rw [show e.toNat = 0 by omega, Nat.pow_zero, Nat.mul_one]
      have h3 : 2 ^ 8 * 2 ^ (-e).toNat ≤ 2 ^ (Go.bitLen m - 1) := by
        rw [← Nat.pow_add]; exact Nat.pow_le_pow_right (by omega) (by omega)
      omega
  omega

set_option maxHeartbeats 800000 in
theorem whole_up (m : Nat) (e : Nat) (w : World) (h0 : m ≠ 0) (hm : m < 16777216) (hl : Go.bitLen m + e ≤ 8) :
    Calls Tryd.prog 50 #[.int .i64 m, .int .i64 e] w fun r w' => r = .returned (.int .i64 (whV m e)) ∧ w = w' := by
  have HL : Hid (∀ X, Calls Tryd.prog 47 #[.int .u64 m] X fun e w' => e = .returned (.int .i64 (Go.bitLen m : Nat)) ∧ X = w') := fun X => (length_any m X (by omega)).mono fun _ _ h => ⟨h.1, h.2.symm⟩
  have hb : m * 2 ^ e < 256 := by
    have h1 := (bitLen_spec m).1
    have h2 : m * 2 ^ e < 2 ^ (Go.bitLen m) * 2 ^ e := Nat.mul_lt_mul_of_pos_right h1 (Nat.two_pow_pos _)
    rw [← Nat.pow_add] at h2
    have h3 : 2 ^ (Go.bitLen m + e) ≤ 2 ^ 8 := Nat.pow_le_pow_right (by omega) hl
    omega
  have HP : Hid (∀ i, i < e → m * 2 ^ i < 256 ∧ m * 2 ^ (i + 1) = m * 2 ^ i * 2) := fun i hi => by
    have : m * 2 ^ i ≤ m * 2 ^ e := Nat.mul_le_mul_left _ (Nat.pow_le_pow_right (by omega) (by omega))
    exact ⟨by omega, by rw [Nat.pow_succ, Nat.mul_assoc]⟩
  have HV : Hid (whV m e = if m * 2 ^ e ≤ 127 then ((m * 2 ^ e : Nat) : Int) else -1) := by
    show whV m e = _
    unfold whV
    rw [rnI_nat]
  have HB := show Hid _ from hb
  have hm0 : ((m : Int) == 0) = false := by simp; omega
  obtain ⟨V, hV⟩ : ∃ V, V = whV m e := ⟨_, rfl⟩
  rw [← hV]
  rw [← hV] at HV
  clear hb hV
  generalize Go.bitLen m = L at *
  go_enter Tryd.func50, Tryd.ntmps50
  go_wp2_with fail
  refine (HL.out _).mono ?_
  rintro r X ⟨rfl, rfl⟩
  go_wp2_with fail
  refine (HL.out _).mono ?_
  rintro r X ⟨rfl, rfl⟩
  go_wp2
  go_loop [5, 8] (fun q i => ∃ j : Nat, j ≤ e ∧ i = .int .i64 j ∧ q = .int .i64 (m * 2 ^ j : Nat)) (fun _ i => e - (intOf i).toNat)
  case atStart => exact ⟨0, by omega, rfl, by simp⟩
  case round =>
    obtain ⟨j, hj, rfl, rfl⟩ := hrel
    by_cases hlt : j < e
    · obtain ⟨p1, p2⟩ := HP.out j hlt
      have HP2 := show Hid _ from p2
      clear p2
      generalize m * 2 ^ j = q at *
      go_wp2
      go_round
      case rel => exact ⟨j + 1, by omega, by go_num, by rw [HP2.out]; go_num⟩
      case measure => simp [intOf]; omega
    · obtain rfl : j = e := by omega
      have hb := HB.out
      have hv := HV.out
      clear HV HP HB
      generalize m * 2 ^ j = q at *
      by_cases g : q ≤ 127
      · rw [if_pos g] at hv
        subst hv
        go_wp2
        go_ret
        exact ⟨rfl, rfl⟩
      · rw [if_neg g] at hv
        subst hv
        go_wp2
        go_ret
        exact ⟨rfl, rfl⟩

theorem round4 {H R Q T : Nat} (he : T = Q + (if 2 * H < 2 * R ∨ (2 * H = 2 * R ∧ Q % 2 = 1) then 1 else 0)) :
    (H < R ∧ T = Q + 1) ∨ (R = H ∧ Q % 2 = 1 ∧ T = Q + 1) ∨ (R = H ∧ Q % 2 = 0 ∧ T = Q) ∨ (R < H ∧ T = Q) := by
  split at he <;> omega

set_option maxHeartbeats 1000000 in
set_option maxRecDepth 100000 in
theorem whole_down (m d : Nat) (w : World) (h0 : m ≠ 0) (hm : m < 16777216) (hd : 1 ≤ d) (h1 : (-1 : Int) ≤ (Go.bitLen m : Int) + -(d : Int)) (h2 : (Go.bitLen m : Int) + -(d : Int) ≤ 8) :
    Calls Tryd.prog 50 #[.int .i64 m, .int .i64 (-(d : Int))] w fun r w' => r = .returned (.int .i64 (whV m (-(d : Int)))) ∧ Fresh w w' := by
  have HL : Hid (∀ X, Calls Tryd.prog 47 #[.int .u64 m] X fun e w' => e = .returned (.int .i64 (Go.bitLen m : Nat)) ∧ X = w') := fun X => (length_any m X (by omega)).mono fun _ _ h => ⟨h.1, h.2.symm⟩
  have hL24 : Go.bitLen m ≤ 24 := by
    have h3 := (bitLen_spec m).2 h0
    rcases Nat.lt_or_ge 24 (Go.bitLen m) with g | g
    · have : 2 ^ 24 ≤ 2 ^ (Go.bitLen m - 1) := Nat.pow_le_pow_right (by omega) (by omega)
      omega
    · exact g
  have hd25 : d ≤ 25 := by omega
  have HP : Hid (∀ i, i < d → 2 ^ i < 33554432 ∧ 2 ^ (i + 1) = 2 ^ i * 2) := fun i hi => by
    have : 2 ^ i ≤ 2 ^ 24 := Nat.pow_le_pow_right (by omega) (by omega)
    exact ⟨by omega, Nat.pow_succ _ _⟩
  have HU : Hid (∃ H, H < 33554432 ∧ 0 < H ∧ 2 ^ d = 2 * H) := ⟨2 ^ (d - 1), (HP.out (d - 1) (by omega)).1, Nat.two_pow_pos _, by rw [Nat.mul_comm, ← Nat.pow_succ, show (d - 1).succ = d by omega]⟩
  have HV : Hid (whV m (-(d : Int)) = if rne m (d) ≤ 127 then (rne m (d) : Int) else -1) := by
    show whV m _ = _
    have : rnI m (-(d : Int)) = rne m (d) := by
      unfold rnI
      rw [show (-(d : Int)).toNat = 0 by omega, Nat.pow_zero, Nat.mul_one, show (- -(d : Int)).toNat = d by omega]
    unfold whV
    rw [this]
  have HE : Hid (rne m (d) = m / 2 ^ (d) + (if 2 ^ (d) < 2 * (m % 2 ^ (d)) ∨ (2 ^ (d) = 2 * (m % 2 ^ (d)) ∧ m / 2 ^ (d) % 2 = 1) then 1 else 0)) := rfl
  have hm0 : ((m : Int) == 0) = false := by simp; omega
  obtain ⟨V, hV⟩ : ∃ V, V = whV m (-(d : Int)) := ⟨_, rfl⟩
  rw [← hV]
  rw [← hV] at HV
  clear hV
  generalize Go.bitLen m = L at *
  have hwl : wrap64 ((L : Int) + -(d : Int)) = (L : Int) + -(d : Int) := by unfold wrap64; omega
  have hwn : wrap64 (- -(d : Int)) = (d : Int) := by unfold wrap64; omega
  have c1 : decide ((L : Int) + -(d : Int) < -1) = false := decide_eq_false (by omega)
  have c2 : decide (8 < (L : Int) + -(d : Int)) = false := decide_eq_false (by omega)
  go_enter Tryd.func50, Tryd.ntmps50
  go_wp2_with fail
  refine (HL.out _).mono ?_
  rintro r X ⟨rfl, rfl⟩
  go_wp2_with fail
  refine (HL.out _).mono ?_
  rintro r X ⟨rfl, rfl⟩
  go_wp2
  go_loop [5, 8] (fun q i => i = .int .i64 0 ∧ q = .int .i64 m) (fun _ _ => 0)
  case atStart => exact ⟨rfl, rfl⟩
  case round =>
    obtain ⟨rfl, rfl⟩ := hrel
    go_wp2
    go_loop [9, 10] (fun u i => ∃ j : Nat, j ≤ d ∧ i = .int .i64 j ∧ u = .int .i64 (2 ^ j : Nat)) (fun _ i => d - (intOf i).toNat)
    case atStart => exact ⟨0, by omega, rfl, rfl⟩
    case round =>
      obtain ⟨j, hj, rfl, rfl⟩ := hrel
      by_cases hlt : j < d
      · obtain ⟨p1, p2⟩ := HP.out j hlt
        have HP2 := show Hid _ from p2
        clear p2
        generalize 2 ^ j = q at *
        go_wp2
        go_round
        case rel => exact ⟨j + 1, by omega, by go_num, by rw [HP2.out]; go_num⟩
        case measure => simp [intOf]; omega
      · obtain rfl : j = d := by omega
        obtain ⟨H, u1, u2, u3⟩ := HU.out
        have hv := HV.out
        have he := HE.out
        clear HV HP HE HU hlt
        rw [u3] at *
        have hQ : (m : Int) / (2 * (H : Int)) = ((m / (2 * H) : Nat) : Int) := by rw [Int.natCast_ediv, Int.natCast_mul]; rfl
        have hR : (m : Int) % (2 * (H : Int)) = ((m % (2 * H) : Nat) : Int) := by rw [Int.natCast_emod, Int.natCast_mul]; rfl
        have hQl : m / (2 * H) ≤ m := Nat.div_le_self _ _
        have hRl : m % (2 * H) < 2 * H := Nat.mod_lt _ (by omega)
        have HQ := show Hid _ from hQ
        have HR := show Hid _ from hR
        have HX : Hid (∃ Q R : Nat, m / (2 * H) = Q ∧ m % (2 * H) = R ∧ Q ≤ m ∧ R < 2 * H ∧ rne m j = Q + (if 2 * H < 2 * R ∨ (2 * H = 2 * R ∧ Q % 2 = 1) then 1 else 0)) := ⟨_, _, rfl, rfl, hQl, hRl, he⟩
        clear hQ hR hQl hRl he
        go_wp2_with fail
        go_quiet (fail)
        rw [HQ.out, HR.out]
        obtain ⟨Q, R, e1, e2, hQl, hRl, he⟩ := HX.out
        rw [e1, e2]
        clear HX HQ HR e1 e2
        have hwq : wrap64 (Q : Int) = (Q : Int) := by unfold wrap64; omega
        rw [hwq]
        have HF : Hid (Fresh w (w.drewN nq)) := ⟨rfl, rfl, rfl, Nat.le_refl _, fun _ _ _ => rfl⟩
        generalize w.drewN nq = W at *
        have H4 := round4 he
        clear he hwq
        have hw1 : wrap64 ((Q : Int) + 1) = (Q : Int) + 1 := by unfold wrap64; omega
        have HW1 := show Hid _ from hw1
        generalize rne m j = T at *
        have HT : Hid (V = if T ≤ 127 then (T : Int) else -1) := hv
        clear hv u1 u2 u3 hm hRl hQl hwl hwn c1 c2 hL24 hd25 h1 h2 hm0 h0 hj hd
        have HC : ∀ T' : Nat, (T' ≤ 127 ∧ (if T' ≤ 127 then (T' : Int) else -1) = T') ∨ (127 < T' ∧ (if T' ≤ 127 then (T' : Int) else -1) = -1) := fun T' => by
          by_cases g : T' ≤ 127
          · exact .inl ⟨g, if_pos g⟩
          · exact .inr ⟨by omega, if_neg g⟩
        have HC1 := HC (Q + 1)
        have HC0 := HC Q
        clear HC
        rcases H4 with ⟨d1, e⟩ | ⟨rfl, d3, e⟩ | ⟨rfl, d3, e⟩ | ⟨d1, e⟩
        · subst e
          have hv := HT.out
          rcases HC1 with ⟨c, ev⟩ | ⟨c, ev⟩
          all_goals
            have ev' := hv.trans ev
            clear hv ev HT HC0
            subst ev'
            go_wp2
            go_ret
            first | exact ⟨rfl, HF.out⟩ | exact ⟨by show Ending.returned (.int .i64 (wrap64 ((Q : Int) + 1))) = _; rw [HW1.out], HF.out⟩
        · subst e
          have hv := HT.out
          rcases HC1 with ⟨c, ev⟩ | ⟨c, ev⟩
          all_goals
            have ev' := hv.trans ev
            clear hv ev HT HC0
            subst ev'
            go_wp2
            go_ret
            first | exact ⟨rfl, HF.out⟩ | exact ⟨by show Ending.returned (.int .i64 (wrap64 ((Q : Int) + 1))) = _; rw [HW1.out], HF.out⟩
        · subst e
          have hv := HT.out
          rcases HC0 with ⟨c, ev⟩ | ⟨c, ev⟩
          all_goals
            have ev' := hv.trans ev
            clear hv ev HT HC1
            subst ev'
            go_wp2
            go_ret
            first | exact ⟨rfl, HF.out⟩ | exact ⟨by show Ending.returned (.int .i64 (wrap64 ((Q : Int) + 1))) = _; rw [HW1.out], HF.out⟩
        · subst e
          have hv := HT.out
          rcases HC0 with ⟨c, ev⟩ | ⟨c, ev⟩
          all_goals
            have ev' := hv.trans ev
            clear hv ev HT HC1
            subst ev'
            go_wp2
            go_ret
            first | exact ⟨rfl, HF.out⟩ | exact ⟨by show Ending.returned (.int .i64 (wrap64 ((Q : Int) + 1))) = _; rw [HW1.out], HF.out⟩

end Go.Proofs.YtmkaafnoanidpaaDoor
