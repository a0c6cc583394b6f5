/-
  The document's Down.
-/
import Derived.Test.YtdmjfmipalifpaaGreatDoorRfa
namespace Go.Proofs.YtdmjfmipalifpaaGreatDoor
open Go.RowKit

theorem val_drop {B : Nat} (hB : 0 < B) {X : List Nat} (h : Dg B X) (q : Nat) (hq : q ≤ X.length) : val B (X.drop q) = val B X / B ^ q := by
  have h1 := val_lt hB (h.take q)
  rw [List.length_take, Nat.min_eq_left hq] at h1
  rw [val_split B X q hq, Nat.add_mul_div_left _ _ (Nat.pow_pos hB), Nat.div_eq_of_lt h1, Nat.zero_add]
theorem down_val (j M n : Nat) : M / (2 ^ j) ^ (n / j) / 2 ^ (n % j) = M / 2 ^ n := by
  rw [← Nat.pow_mul, Nat.div_div_eq_div_mul, ← Nat.pow_add, Nat.div_add_mod]

set_option maxHeartbeats 1000000 in
set_option maxRecDepth 100000 in
theorem refDown_any (v : Value) (M n : Nat) (w : World) (h : Rn w v M) (hb : bl M ≤ 65536) (hn : n ≤ 9223372036854775807) :
    Calls Tryz.prog 31 #[v, .int .i64 n] w fun e w' => ∃ v', e = .returned v' ∧ (Rn w' v' (M / 2 ^ n) ∧ Fresh w w') := by
  obtain ⟨X, hX, hc, hv⟩ := h
  have hdg := hX.dg
  have hlX := rn_len hdg hc
  rw [hv] at hlX
  have hXl : X.length ≤ 4097 := by omega
  obtain ⟨Q, hQ⟩ : ∃ Q, Q = n / 16 := ⟨_, rfl⟩
  obtain ⟨R, hR⟩ : ∃ R, R = n % 16 := ⟨_, rfl⟩
  have q1 : (n : Int) / 16 = (Q : Int) := by omega
  have q2 : (n : Int).tdiv 16 = (Q : Int) := by rw [Int.tdiv_eq_ediv_of_nonneg (by omega)]; exact q1
  have q3 : (n : Int) % 16 = (R : Int) := by omega
  have q4 : (n : Int).tmod 16 = (R : Int) := by rw [Int.tmod_eq_emod_of_nonneg (by omega)]; exact q3
  have hRl : R < 16 := by omega
  have hdv := down_val 16 M n
  rw [← hQ, ← hR, show (2 ^ 16 : Nat) = 65536 by decide] at hdv
  rw [← hdv]
  obtain ⟨ao, cap, hvv, hcc, hcm, hcell, _, hnil⟩ := hX
  by_cases hlt : Q < X.length
  · obtain ⟨b, off, rfl, _, hbl, hce⟩ := hcell (fun e => by rw [e] at hlt; simp at hlt)
    have hvd := val_drop (B := 65536) (by decide) hdg Q (by omega)
    rw [hv] at hvd
    obtain ⟨E, hE⟩ : ∃ E : Nat, E = 2 ^ R := ⟨_, rfl⟩
    have hE0 : 0 < E := by rw [hE]; exact Nat.two_pow_pos _
    have hEl : E ≤ 65536 := by
      rw [hE]
      exact Nat.pow_le_pow_right (n := 2) (by decide) (show R ≤ 16 by omega)
    have hEI : (2 : Int) ^ R = (E : Int) := by rw [hE]; simp
    have hND : Nd (fun _ => True) w (.slice (some ⟨b, off + Q, none⟩) (X.length - Q) (cap - Q)) (X.drop Q) := by
      refine ⟨some ⟨b, off + Q, none⟩, cap - Q, by rw [List.length_drop], ⟨by rw [List.length_drop]; omega, by rw [List.length_drop]; omega⟩, by omega, fun _ => ⟨b, off + Q, rfl, trivial, hbl, fun i hi => ?_⟩, hdg.drop _, fun e => by cases e⟩
      rw [List.length_drop] at hi
      have := hce (Q + i) (by omega)
      rw [← Nat.add_assoc] at this
      rw [this, List.getD_eq_getElem?_getD, List.getD_eq_getElem?_getD, List.getElem?_drop]
    have hsm := refSmall_any _ (X.drop Q) E w hND (by rw [List.length_drop]; omega) hE0 hEl
    rw [hvd] at hsm
    rw [← hE]
    have HSM : Hid (Unit → _) := fun (_ : Unit) => hsm
    have hs1 : (Q : Int) ≤ (X.length : Int) := by omega
    have hs2 : (X.length : Int) ≤ (cap : Int) := by omega
    have hs3 : ¬ (X.length : Int) ≤ (Q : Int) := by omega
    subst hvv
    clear hsm hND hvd hdv hcell hce hE hQ hR hdg hv hc hlX hb
    generalize M / 65536 ^ Q / E = T at *
    generalize ((M / 65536 ^ Q % E : Nat) : Int) = T2 at *
    go_enter Tryz.func31, Tryz.ntmps31
    go_wp2_with fail
    refine (HSM.out ()).mono ?_
    rintro e w1 ⟨qv, rfl, hR1, hF1⟩
    obtain ⟨qa, qn, qc, rfl⟩ := hR1.shape
    have HR1 : Hid (Unit → _) := fun (_ : Unit) => hR1
    have HF1 := show Hid _ from hF1
    clear hR1 hF1 HSM
    go_wp2
    go_ret
    exact ⟨_, rfl, HR1.out (), HF1.out⟩
  · have h0 : M / 65536 ^ Q / 2 ^ R = 0 := by
      have hm := val_lt (B := 65536) (by decide) hdg
      rw [hv] at hm
      rw [Nat.div_eq_of_lt (Nat.lt_of_lt_of_le hm (Nat.pow_le_pow_right (by decide) (by omega))), Nat.zero_div]
    rw [h0]
    have hs3 : (X.length : Int) ≤ (Q : Int) := by omega
    subst hvv
    clear h0 hdv hcell hdg hv hc hlX hb hQ hR
    go_enter Tryz.func31, Tryz.ntmps31
    go_wp2
    go_ret
    exact ⟨_, rfl, rn_nil _, Kept.refl _ _⟩
end Go.Proofs.YtdmjfmipalifpaaGreatDoor
