/-
  The words of the package: at, trim.
-/
import Derived.Test.YtdmjfmipalifpaaGreatDoorDwo
import Derived.Test.YtdmjfmipalifpaaGreatDoorShf
namespace Go.Proofs.YtdmjfmipalifpaaGreatDoor
open Go.RowKit

set_option maxHeartbeats 400000 in
theorem at_any (p : Nat → Prop) (v : Value) (L : List Nat) (i : Nat) (w : World) (h : Wd p w v L) (hi : i ≤ 9223372036854775807) :
    Calls Tryz.prog 45 #[v, .int .i64 i] w fun e w' => e = .returned (.int .u64 ((L.getD i 0 : Nat) : Int)) ∧ w' = w := by
  obtain ⟨ao, cap, rfl, hc, _, hcell, _⟩ := h
  by_cases hlt : i < L.length
  · obtain ⟨b, off, rfl, _, _, hce⟩ := hcell (fun e => by rw [e] at hlt; simp at hlt)
    have hcu := hce i hlt
    have hj0 : (0 : Int) ≤ (i : Int) := by omega
    have hj1 : (i : Int) < (L.length : Int) := by omega
    generalize L.getD i 0 = D at *
    clear hce hcell
    go_enter Tryz.func45, Tryz.ntmps45
    go_wp2
    go_ret
    exact ⟨rfl, rfl⟩
  · rw [show L.getD i 0 = 0 by rw [List.getD_eq_getElem?_getD, List.getElem?_eq_none (by omega)]; rfl]
    clear hcell
    go_enter Tryz.func45, Tryz.ntmps45
    go_wp2
    go_ret
    exact ⟨rfl, rfl⟩

/-- What trim leaves. -/
structure Trm (B : Nat) (L : List Nat) (n : Nat) : Prop where
  le : n ≤ L.length
  can : Can (L.take n)
  val : val B (L.take n) = val B L

/-- What trim answers. -/
def TrimO (p : Nat → Prop) (w : World) (v : Value) (L : List Nat) (v' : Value) : Prop := ∃ n, Trm 18446744073709551616 L n ∧ Wd p w v' (L.take n) ∧ (n = 0 → v' = .slice none 0 0) ∧ (n ≠ 0 → ∀ ao cap, v = .slice ao L.length cap → v' = .slice ao n cap)

set_option maxHeartbeats 400000 in
theorem trim_any (p : Nat → Prop) (v : Value) (L : List Nat) (w : World) (h : Wd p w v L) :
    Calls Tryz.prog 60 #[v] w fun e w' => ∃ v', e = .returned v' ∧ TrimO p w v L v' ∧ w' = w := by
  have h' := h
  obtain ⟨ao, cap, rfl, hc, hcm, hcell, hdg, hnil⟩ := h
  go_enter Tryz.func60, Tryz.ntmps60
  go_wp2
  go_loop [3] (fun c => ∃ n : Nat, n ≤ L.length ∧ c = .int .i64 (n : Int) ∧ Hid (∀ i, n ≤ i → L.getD i 0 = 0)) (fun c => (intOf c).toNat)
  case atStart => exact ⟨L.length, by omega, rfl, fun i hi => by rw [List.getD_eq_getElem?_getD, List.getElem?_eq_none (by omega)]; rfl⟩
  case round =>
    obtain ⟨n, hn, rfl, H0⟩ := hrel
    rcases Nat.eq_zero_or_pos n with hz | hz
    · subst hz
      go_wp2
      go_ret
      exact ⟨_, rfl, ⟨0, ⟨by omega, by simp [Can], val_take _ _ _ (by omega) H0.out⟩, Dw.nil _ _ p w, fun _ => rfl, fun e => absurd rfl e⟩, rfl⟩
    · obtain ⟨m, rfl⟩ : ∃ m, n = m + 1 := ⟨n - 1, by omega⟩
      obtain ⟨b, off, rfl, hp, hb, hce⟩ := hcell (fun e => by rw [e] at hn; simp at hn)
      have hcu := hce m (by omega)
      have hj0 : (0 : Int) ≤ (m : Int) := by omega
      have hj1 : (m : Int) < (L.length : Int) := by omega
      have e1 : (m : Int) + 1 - 1 = (m : Int) := by omega
      by_cases hd : L.getD m 0 = 0
      · have H1 : Hid (∀ i, m ≤ i → L.getD i 0 = 0) := fun i hi => by
          rcases Nat.lt_or_ge m i with e | e
          · exact H0.out i (by omega)
          · obtain rfl : i = m := by omega
            exact hd
        rw [hd] at hcu
        clear hcell hce
        go_wp2
        go_round
        case rel => exact ⟨m, by omega, by go_num, H1⟩
        case measure => simp [intOf]
      · have HD := show Hid _ from hd
        have HC := show Hid _ from hce
        have HT : Hid (Trm 18446744073709551616 L (m + 1)) := ⟨by omega, can_take _ _ (by omega) (.inr (by simpa using hd)), val_take _ _ _ (by omega) H0.out⟩
        generalize L.getD m 0 = D at *
        have hne : ((D : Int) == 0) = false := by simp; exact hd
        clear hcell hce hd H0
        go_wp2
        go_ret
        refine ⟨_, rfl, ⟨m + 1, HT.out, ?_, fun e => by omega, fun _ ao' cap' e => ?_⟩, rfl⟩
        rotate_left
        · cases e
          rfl
        refine ⟨some ⟨b, off, none⟩, cap, ?_, ?_, hcm, fun _ => ⟨b, off, rfl, hp, hb, fun i hi => ?_⟩, hdg.take _, fun e => by cases e⟩
        · rw [List.length_take, Nat.min_eq_left hn]; rfl
        · rw [List.length_take]; exact ⟨by omega, by omega⟩
        · rw [List.length_take] at hi
          rw [HC.out i (by omega), List.getD_eq_getElem?_getD, List.getD_eq_getElem?_getD, List.getElem?_take_of_lt (by omega)]
end Go.Proofs.YtdmjfmipalifpaaGreatDoor
