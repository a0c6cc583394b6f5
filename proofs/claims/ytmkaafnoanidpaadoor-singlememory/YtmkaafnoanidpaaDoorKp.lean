/-
  Singles made of numbers of 8 bits at a scale: their bits, and the scale of a row of them (3.6).
-/
import Derived.Test.YtmkaafnoanidpaaDoorRq
import Derived.Test.YtmkaafnoanidpaaDoorFoN
namespace Go.Proofs.YtmkaafnoanidpaaDoor
open Go.RowKit Ieee

/-- What a number of 8 bits at a scale is as a single. -/
theorem near_low (m : Nat) (s : Int) (h0 : m ≠ 0) (hm : m ≤ 127) (hs : -64 ≤ s ∧ s ≤ 64) :
    ∃ k E F : Nat, k ≤ 6 ∧ F < 8388608 ∧ 8388608 + F = m * 2 ^ (23 - k) ∧ (E : Int) = 127 + k - s ∧ rung single m (-s) = E * 8388608 + F := by
  obtain ⟨k, hk, h1, h2⟩ : ∃ k, k ≤ 6 ∧ 2 ^ k ≤ m ∧ m < 2 ^ (k + 1) := by
    refine ⟨m.log2, ?_, Nat.log2_self_le h0, Nat.lt_log2_self⟩
    have := (Nat.log2_lt (k := 7) h0).2 (by omega)
    omega
  have g1 : 2 ^ k * 2 ^ (23 - k) = 8388608 := by rw [← Nat.pow_add, show k + (23 - k) = 23 by omega]
  have g2 : 2 ^ (k + 1) * 2 ^ (23 - k) = 16777216 := by rw [← Nat.pow_add, show k + 1 + (23 - k) = 24 by omega]
  have g3 : 2 ^ k * 2 ^ (23 - k) ≤ m * 2 ^ (23 - k) := Nat.mul_le_mul_right _ h1
  have g4 : m * 2 ^ (23 - k) < 2 ^ (k + 1) * 2 ^ (23 - k) := Nat.mul_lt_mul_of_pos_right h2 (Nat.two_pow_pos _)
  rw [g1] at g3
  rw [g2] at g4
  refine ⟨k, (127 + k - s).toNat, m * 2 ^ (23 - k) - 8388608, hk, by omega, by omega, by omega, ?_⟩
  rw [← rung_shift single m (23 - k) (-s)]
  have := rung_high single (127 + (k : Int) - s).toNat (m * 2 ^ (23 - k) - 8388608) (by omega) (by rw [single_binade]; omega) (by rw [single_binade, single_inf]; omega)
  rw [single_binade, single_least] at this
  rw [show 8388608 + (m * 2 ^ (23 - k) - 8388608) = m * 2 ^ (23 - k) by omega, show (-149 : Int) + (((127 + (k : Int) - s).toNat - 1 : Nat) : Int) = -s - ((23 - k : Nat) : Int) by omega] at this
  exact this

/-- What is wanted of a single made of a number. -/
structure Made (q s : Int) (b : Nat) : Prop where
  lt : b < 4294967296
  fin : bE b ≠ 255
  neg : q < 0 → bN b = true
  pos : 0 ≤ q → bN b = false
  num : ∀ t, whl b t = rnI q.natAbs (t - s)

theorem made_near (q s : Int) (hq : -127 ≤ q ∧ q ≤ 127) (hs : -64 ≤ s ∧ s ≤ 64) : Made q s (nearB q (-s)) := by
  unfold nearB
  rw [nearest_rung]
  by_cases h0 : q = 0
  · subst h0
    have : single.word (decide ((0 : Int) < 0)) (rung single (Int.natAbs 0) (-s)) = 0 := by
      unfold rung
      rw [if_pos (by decide)]
      decide
    rw [this]
    refine ⟨by decide, by decide, fun h => by omega, fun _ => by decide, fun t => ?_⟩
    rw [whl_zero]
    exact (rnI_zero _).symm
  · obtain ⟨k, E, F, hk, hF, hm, hE, hr⟩ := near_low q.natAbs s (by omega) (by omega) hs
    rw [hr]
    obtain ⟨b, hb⟩ : ∃ b, b = single.word (decide (q < 0)) (E * 8388608 + F) := ⟨_, rfl⟩
    have hb2 : b = (if q < 0 then 2147483648 else 0) + (E * 8388608 + F) := by
      rw [hb]
      unfold Format.word
      rw [single_sign]
      by_cases g : q < 0
      · rw [if_pos (decide_eq_true g), if_pos g]
      · rw [if_neg (by simp [g]), if_neg g, Nat.zero_add]
    rw [← hb]
    clear hb
    have e1 : bE b = E := by unfold bE; split at hb2 <;> omega
    have e2 : bF b = F := by unfold bF; split at hb2 <;> omega
    refine ⟨by split at hb2 <;> omega, by omega, fun g => ?_, fun g => ?_, fun t => ?_⟩
    · rw [if_pos g] at hb2
      exact decide_eq_true (by omega)
    · rw [if_neg (by omega)] at hb2
      exact decide_eq_false (by omega)
    · unfold whl mt ex
      rw [e1, e2, if_neg (by omega), if_neg (by omega), if_neg (by omega), if_neg (by omega), hm, show (E : Int) - 150 + t = t - s - ((23 - k : Nat) : Int) by omega]
      exact rnI_shift _ _ _

theorem rnI_nat (m k : Nat) : rnI m (k : Int) = m * 2 ^ k := by
  unfold rnI
  rw [show (-(k : Int)).toNat = 0 by omega, rne_zero, Int.toNat_natCast]

theorem whl_low (b : Nat) (t : Int) : whl (b % 2147483648) t = whl b t := by
  have e1 : bE (b % 2147483648) = bE b := by unfold bE; omega
  have e2 : bF (b % 2147483648) = bF b := by unfold bF; omega
  unfold whl mt ex
  rw [e1, e2]

theorem gm_mem (bs : List Nat) : ∀ k, k ≤ bs.length → gm bs k = 0 ∨ ∃ b ∈ bs, gm bs k = b % 2147483648
  | 0, _ => .inl rfl
  | k + 1, h => by
    unfold gm
    rcases Nat.lt_or_ge (gm bs k) (bs.getD k 0 % 2147483648) with g | g
    · refine .inr ⟨bs.getD k 0, ?_, by omega⟩
      rw [List.getD_eq_getElem?_getD, List.getElem?_eq_getElem (by omega)]
      exact List.getElem_mem _
    · rw [Nat.max_eq_left g]
      exact gm_mem bs k (by omega)

/-- A row made of numbers of 8 bits, one of them great, is these again. -/
theorem keeps (zs : List Int) (s : Int) (hs : -64 ≤ s ∧ s ≤ 64) (hz : ∀ z ∈ zs, -127 ≤ z ∧ z ≤ 127) (hg : ∃ z ∈ zs, 63 < z ∨ z < -63) {e s' : Int} {zs' : List Int} (h : QnIs (zs.map fun z => nearB z (-s)) e s' zs') : e = 0 ∧ s' = s ∧ zs' = zs := by
  obtain ⟨bs, hbs⟩ : ∃ bs, bs = zs.map fun z => nearB z (-s) := ⟨_, rfl⟩
  rw [← hbs] at h
  have hall : ∀ b ∈ bs, ∃ z ∈ zs, Made z s b := fun b hb => by
    rw [hbs] at hb
    obtain ⟨z, h1, rfl⟩ := List.mem_map.1 hb
    exact ⟨z, h1, made_near z s (hz z h1) hs⟩
  have hM := gm_mem bs bs.length (Nat.le_refl _)
  have hfin : gm bs bs.length < 2139095040 := by
    rcases hM with h0 | ⟨b, hb, h0⟩
    · rw [h0]; decide
    · obtain ⟨z, _, hm⟩ := hall b hb
      have h1 := low_eq b
      have h2 := bF_lt b
      have h3 := bE_lt b
      have := hm.fin
      rw [h0, h1]
      omega
  have hroom : whl (gm bs bs.length) s ≤ 127 := by
    rcases hM with h0 | ⟨b, hb, h0⟩
    · rw [h0, whl_zero]; omega
    · obtain ⟨z, hzm, hm⟩ := hall b hb
      have := hz z hzm
      rw [h0, whl_low, hm.num, show s - s = ((0 : Nat) : Int) by omega, rnI_nat]
      omega
  have hmore : ∀ t, s < t → 127 < whl (gm bs bs.length) t := fun t ht => by
    obtain ⟨z, hzm, hbig⟩ := hg
    have hm := made_near z s (hz z hzm) hs
    have hb : nearB z (-s) ∈ bs := by rw [hbs]; exact List.mem_map.2 ⟨z, hzm, rfl⟩
    have h1 := gm_all hb
    have h2 : whl (nearB z (-s)) t ≤ whl (gm bs bs.length) t := nst_mono hm.fin (low_fin hfin).1 t (by rw [Nat.mod_eq_of_lt (gm_lt _ _)]; exact h1)
    rw [hm.num] at h2
    obtain ⟨k, hk⟩ : ∃ k : Nat, t - s = ((k + 1 : Nat) : Int) := ⟨(t - s - 1).toNat, by omega⟩
    rw [hk, rnI_nat, Nat.pow_succ] at h2
    have hp := Nat.two_pow_pos k
    have h3 : 64 * 2 ≤ z.natAbs * (2 ^ k * 2) := Nat.mul_le_mul (by omega) (by omega)
    omega
  have hnz : gm bs bs.length ≠ 0 := fun e => by
    have := hmore (s + 1) (by omega)
    rw [e, whl_zero] at this
    omega
  rcases h with ⟨h1, _⟩ | ⟨_, _, h1, _⟩ | ⟨_, h1, h2, h3⟩
  · omega
  · have := h1 s hs.1 hs.2
    omega
  · have es : s' = s := by
      rcases h1 with ⟨h1, _⟩ | ⟨_, a1, a2, a3, a4⟩
      · exact absurd h1 hnz
      · rcases Int.lt_trichotomy s' s with g | g | g
        · have := a4 s g hs.2
          omega
        · exact g
        · have := hmore s' g
          omega
    subst es
    refine ⟨h2, rfl, ?_⟩
    rw [h3, hbs, List.map_map]
    have : zs.map (q8 s' ∘ fun z => nearB z (-s')) = zs.map id := List.map_congr_left fun z hzm => by
      have hm := made_near z s' (hz z hzm) hs
      show sgnI (bN (nearB z (-s'))) (whl (nearB z (-s')) s') = z
      rw [hm.num, show s' - s' = ((0 : Nat) : Int) by omega, rnI_nat, Nat.pow_zero, Nat.mul_one]
      unfold sgnI
      by_cases g : z < 0
      · rw [hm.neg g, if_pos rfl]; omega
      · rw [hm.pos (by omega), if_neg (by decide)]; omega
    rw [this, List.map_id]

end Go.Proofs.YtmkaafnoanidpaaDoor
