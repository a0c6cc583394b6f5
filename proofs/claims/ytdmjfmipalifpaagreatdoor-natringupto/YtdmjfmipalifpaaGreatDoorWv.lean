/-
  Powers of numbers; Bits.
-/
import Derived.Test.YtdmjfmipalifpaaGreatDoorWu
import Derived.Test.YtdmjfmipalifpaaGreatDoorNum
namespace Go.Proofs.YtdmjfmipalifpaaGreatDoor
open Go.RowKit

theorem bl_mul (a b : Nat) : bl (a * b) ≤ bl a + bl b := by
  rcases Nat.eq_zero_or_pos a with h | h
  · subst h; simp [bl]
  · refine bl_le ?_
    rw [Nat.pow_add]
    rcases Nat.eq_zero_or_pos b with hb | hb
    · subst hb; rw [Nat.mul_zero]; exact Nat.mul_pos (Nat.pow_pos (by omega)) (Nat.pow_pos (by omega))
    · exact Nat.mul_lt_mul'' (lt_bl a) (lt_bl b)
theorem bl_pow (a k : Nat) : bl (a ^ k) ≤ k * bl a + 1 := by
  refine bl_le ?_
  have h := Nat.pow_le_pow_left (Nat.le_of_lt (lt_bl a)) k
  rw [← Nat.pow_mul, Nat.mul_comm] at h
  have : 2 ^ (k * bl a) < 2 ^ (k * bl a + 1) := Nat.pow_lt_pow_right (by omega) (by omega)
  omega
theorem pow_bit (M n i : Nat) : M ^ (n / 2 ^ (i + 1)) * M ^ (n / 2 ^ (i + 1)) * M ^ (n / 2 ^ i % 2) = M ^ (n / 2 ^ i) := by
  have e : n / 2 ^ (i + 1) = n / 2 ^ i / 2 := by rw [Nat.pow_succ, Nat.div_div_eq_div_mul]
  rw [e, ← Nat.pow_add, ← Nat.pow_add]
  congr 1
  omega

set_option maxHeartbeats 1000000 in
set_option maxRecDepth 100000 in
theorem power_any (xv : Value) (M n : Nat) (w : World) (hx : Nm w xv M) (hn : n < 65536) (hb : n * bl M ≤ 1000000) :
    Calls Tryz.prog 54 #[xv, .int .i64 n] w fun e w' => ∃ v', e = .returned v' ∧ (Nm w' v' (M ^ n) ∧ Fresh w w') := by
  have h1 := fun W => word_any 1 W (by omega)
  have hlen := fun W => Tryz.bits_Len (n : Int) W (by omega) (by omega)
  rw [Int.toNat_natCast, bl_bitLen (by omega)] at hlen
  have hnl := lt_bl n
  have hl16 : bl n ≤ 16 := bl_le (by omega)
  have HX := show Hid _ from hx
  obtain ⟨xa, xn, xc, rfl⟩ := hx.shape
  clear hx
  have HB : Hid (∀ k, k ≤ n → bl (M ^ k) ≤ 1000001) := fun k hk => by
    have := bl_pow M k
    have := Nat.mul_le_mul_right (bl M) hk
    omega
  go_enter Tryz.func54, Tryz.ntmps54
  go_wp2_with fail
  refine (h1 _).mono ?_
  rintro e w1 ⟨v1, rfl, hN1, hF1⟩
  obtain ⟨a1, n1, c1, rfl⟩ := hN1.shape
  have HN1 := show Hid _ from hN1
  have HF1 := show Hid _ from hF1
  clear hN1 hF1 h1
  go_wp2_with fail
  refine (hlen _).mono ?_
  rintro e w1' ⟨rfl, rfl⟩
  have hK0 : n = 0 → bl n = 0 := fun e => by rw [e]; rfl
  generalize hK : bl n = K at *
  clear hK hlen
  go_wp2_with fail
  go_loopw [5, 6] (fun pv iv wr => ∃ k : Nat, k ≤ K ∧ iv = .int .i64 ((k : Int) - 1) ∧ Hid (Nm wr pv (M ^ (n / 2 ^ k))) ∧ Fresh w wr) (fun _ iv _ => (intOf iv + 1).toNat)
  case atStart => exact ⟨K, by omega, rfl, by show Nm _ _ _; rw [Nat.div_eq_of_lt hnl, Nat.pow_zero]; exact HN1.out, HF1.out⟩
  case round =>
    obtain ⟨k, hk, rfl, HP, hF⟩ := hrel
    obtain ⟨pa, pn, pc, rfl⟩ := Nm.shape HP.out
    rcases Nat.eq_zero_or_pos k with hz | hz
    · subst hz
      have hp := HP.out
      rw [Nat.pow_zero, Nat.div_one] at hp
      have HP' := show Hid _ from hp
      have HF := show Hid _ from hF
      clear hp HP hF
      go_wp2
      go_ret
      exact ⟨_, rfl, HP'.out, HF.out⟩
    · obtain ⟨i, rfl⟩ : ∃ i, k = i + 1 := ⟨k - 1, by omega⟩
      have e1 : ((i + 1 : Nat) : Int) - 1 = (i : Int) := by omega
      rw [e1]
      have hle : n / 2 ^ (i + 1) ≤ n := Nat.div_le_self _ _
      have HK0 := hK0
      have hsq := times_any _ _ _ _ wr HP.out HP.out (by have := HB.out _ hle; omega)
      have hbit := pow_bit M n i
      have hdi : n / 2 ^ i ≤ n := Nat.div_le_self _ _
      have hbl := HB.out _ hdi
      have hsh : (n : Int) / 2 ^ i = ((n / 2 ^ i : Nat) : Int) := by simp
      obtain ⟨D, hD⟩ : ∃ D, D = n / 2 ^ i := ⟨_, rfl⟩
      rw [← hD] at hsh hbit hbl hdi
      have hand : bits .and .i64 (D : Int) 1 = ((D % 2 : Nat) : Int) := by
        rw [and_one]
        omega
      have HG : Hid (D = n / 2 ^ i) := hD
      have HBIT := show Hid _ from hbit
      have HBL : Hid (bl (M ^ (n / 2 ^ (i + 1)) * M ^ (n / 2 ^ (i + 1))) + bl M ≤ 1099511627776) := by
        have h1 := bl_mul (M ^ (n / 2 ^ (i + 1))) (M ^ (n / 2 ^ (i + 1)))
        have h2 := HB.out _ hle
        have h3 : bl M ≤ 1000001 := by
          rcases Nat.eq_zero_or_pos n with h | h
          · have := hK0 h; omega
          · have := HB.out 1 h; rwa [Nat.pow_one] at this
        show _ ≤ _
        omega
      clear hD hbit HP hle hnl
      go_wp2_with fail
      refine hsq.mono ?_
      rintro e w2 ⟨v2, rfl, hN2, hF2⟩
      obtain ⟨a2, n2, c2, rfl⟩ := hN2.shape
      have hF3 : Fresh w w2 := hF.trans hF2 (fun _ _ e => e)
      by_cases hodd : D % 2 = 1
      · have hmul := times_any _ _ _ _ w2 hN2 (Nm.fresh HX.out hF3) HBL.out
        have hr := HBIT.out
        rw [hodd, Nat.pow_one] at hr
        rw [hr] at hmul
        rw [hodd] at hand
        have hand' : bits .and .i64 (D : Int) 1 = 1 := hand
        clear hand hN2 hr hsq
        go_wp2_with fail
        refine hmul.mono ?_
        rintro e w4 ⟨v4, rfl, hN4, hF4⟩
        obtain ⟨a4, n4, c4, rfl⟩ := hN4.shape
        have HN4 : Hid (Nm w4 (.slice a4 n4 c4) (M ^ (n / 2 ^ i))) := by rw [← HG.out]; exact hN4
        have HF4 : Hid (Fresh w w4) := hF3.trans hF4 (fun _ _ e => e)
        clear hN4 hF4 hmul
        go_wp2
        go_roundw
        case rel => exact ⟨i, by omega, by go_num, HN4, HF4.out⟩
        case measure => simp [intOf]
      · have h0 : D % 2 = 0 := by omega
        have hr := HBIT.out
        rw [h0, Nat.pow_zero, Nat.mul_one] at hr
        rw [hr] at hN2
        rw [h0] at hand
        have hand' : bits .and .i64 (D : Int) 1 = 0 := hand
        have HN4 : Hid (Nm w2 (.slice a2 n2 c2) (M ^ (n / 2 ^ i))) := by rw [← HG.out]; exact hN2
        have HF4 : Hid (Fresh w w2) := hF3
        clear hand hN2 hr hsq hF3
        go_wp2
        go_roundw
        case rel => exact ⟨i, by omega, by go_num, HN4, HF4.out⟩
        case measure => simp [intOf]
end Go.Proofs.YtdmjfmipalifpaaGreatDoor
