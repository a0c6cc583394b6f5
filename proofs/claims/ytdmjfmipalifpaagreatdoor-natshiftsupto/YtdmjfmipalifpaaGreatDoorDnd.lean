/-
  Down.
-/
import Derived.Test.YtdmjfmipalifpaaGreatDoorDnc
namespace Go.Proofs.YtdmjfmipalifpaaGreatDoor
open Go.RowKit

def dnN (M : Nat) (k : Int) : Nat := if k < 0 then 0 else M / 2 ^ k.toNat
def dnE (k : Int) : Int := if k < 0 then 1 else 0
theorem dn_neg {M : Nat} {k : Int} (h : k < 0) : dnN M k = 0 ∧ dnE k = 1 := ⟨if_pos h, if_pos h⟩
theorem dn_nat (M n : Nat) : dnN M (n : Int) = M / 2 ^ n ∧ dnE (n : Int) = 0 := by
  have h0 : ¬ (n : Int) < 0 := by omega
  exact ⟨if_neg h0, if_neg h0⟩

set_option maxHeartbeats 1000000 in
set_option maxRecDepth 100000 in
theorem natDown_any (v : Value) (M : Nat) (k : Int) (w : World) (h : Nm w v M) (hM2 : bl M ≤ 65536) (hk1 : k ≤ 9223372036854775807) :
    Calls Tryz.prog 30 #[.agg #[v], .int .i64 k] w fun e w' => ∃ v', e = .returned (.tuple #[.agg #[v'], .int .i64 (dnE k)]) ∧ (Nm w' v' (dnN M k) ∧ Fresh w w') := by
  by_cases hneg : k < 0
  · obtain ⟨e1, e2⟩ := dn_neg (M := M) hneg
    rw [e1, e2]
    obtain ⟨a, n, c, rfl⟩ := h.shape
    have hB := Bx.made w (.slice a n c) (.slice none 0 0)
    have hc1 := hB.c2
    have hf1 := hB.f2
    have R2 := show Hid _ from hB.fr
    clear h e1 e2 hB
    go_enter Tryz.func30, Tryz.ntmps30
    go_wp2
    exact bodyPost_ret (v := .tuple #[.agg #[.slice none 0 0], .int .i64 1]) (by simp [results, Tryz.results30, go_sem, hc1]) rfl ⟨_, rfl, nm_zero _, R2.out⟩
  · obtain ⟨n, rfl⟩ : ∃ n : Nat, k = (n : Int) := ⟨k.toNat, by omega⟩
    obtain ⟨e1, e2⟩ := dn_nat M n
    rw [e1, e2]
    clear e1 e2
    have hfit : bl (M / 2 ^ n) ≤ 65536 := Nat.le_trans (bl_mono (Nat.div_le_self _ _)) hM2
    obtain ⟨f1, f2⟩ := fit_in hfit
    have HUP : Hid (Unit → _) := fun (_ : Unit) => fun W (hF : Fresh w W) => down_any v M n W (h.fresh hF) hM2 (by omega)
    have HNB : Hid (∀ W v, Nm W v (M / 2 ^ n) → Calls Tryz.prog 37 #[v] W fun e w' => ∃ v', e = .returned (.tuple #[.agg #[v'], .int .i64 0]) ∧ (Nm w' v' (M / 2 ^ n) ∧ Fresh W w')) := fun W v hN => by
      have := number_any v _ W hN
      rw [f1, f2] at this
      exact this
    obtain ⟨a, m, c, rfl⟩ := h.shape
    have HB := show Hid _ from Bx.made w (.slice a m c) (.slice none 0 0)
    have hcx := HB.out.c1
    obtain ⟨T, hT⟩ : ∃ T, T = M / 2 ^ n := ⟨_, rfl⟩
    rw [← hT] at HUP HNB ⊢
    clear h f1 f2 hT hfit hM2
    go_enter Tryz.func30, Tryz.ntmps30
    go_wp2_with fail
    refine (HUP.out () _ HB.out.fr).mono ?_
    rintro e w3 ⟨v3, rfl, hN3, hF3⟩
    obtain ⟨a3, k3, c3, rfl⟩ := hN3.shape
    have HB3 := show Hid _ from Bx.next HB.out hF3
    have HNU : Hid (Unit → _) := fun (_ : Unit) => HNB.out w3 _ hN3
    clear HB hF3 hN3 hcx HUP HNB
    go_wp2_with fail
    refine (HNU.out ()).mono ?_
    rintro e w4 ⟨v4, rfl, hN4, hF4⟩
    obtain ⟨a4, k4, c4, rfl⟩ := hN4.shape
    have hB4 := Bx.next HB3.out hF4
    have hc4 := hB4.c2
    have hf4 := hB4.f2
    obtain ⟨r0, r1, r2⟩ := hB4.store _ hN4
    have R1 : Hid (Unit → _) := fun (_ : Unit) => r1
    have R2 := show Hid _ from r2
    clear HB3 hF4 hN4 hB4 r1 r2 HNU
    go_wp2
    exact bodyPost_ret (v := .tuple #[.agg #[.slice a4 k4 c4], .int .i64 0]) (by simp [results, Tryz.results30, go_sem, r0]) rfl ⟨_, rfl, R1.out (), R2.out⟩
end Go.Proofs.YtdmjfmipalifpaaGreatDoor
