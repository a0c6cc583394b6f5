/-
  What packed numbers say: the number at a place; Unpack, the package's.
-/
import Derived.Test.YtlepdogfgpeogaaVcz
import Derived.Deep.RegionHeldLaw
namespace Go.Proofs.Ytlepdogfgpeogaa
open Go.RowKit Go.Lib Go.Maps

/-- Four bits, as a number with a sign. -/
def s4 (x : Int) : Int := if 7 < x % 16 then x % 16 - 16 else x % 16
theorem s4_bound (x : Int) : -8 ≤ s4 x ∧ s4 x ≤ 7 := by unfold s4; split <;> omega
theorem s4_shift {x : Int} (h0 : 0 ≤ x) (h1 : x ≤ 255) : wrap64 (x * 1152921504606846976) / 1152921504606846976 = s4 x := by
  obtain ⟨n, rfl⟩ := Int.eq_ofNat_of_zero_le h0
  have : ∀ m : Fin 256, wrap64 (((m : Nat) : Int) * 1152921504606846976) / 1152921504606846976 = s4 ((m : Nat) : Int) := by decide +kernel
  exact this ⟨n, by omega⟩
/-- The four bits that stand at a place. -/
def nib (hs : List Int) (i : Nat) : Int := if i % 2 = 0 then hs.getD (i / 2) 0 else hs.getD (i / 2) 0 / 16
set_option maxHeartbeats 1000000 in
set_option maxRecDepth 100000 in
theorem said_any (p : Nat → Prop) (hv : Value) (hs : List Int) (i : Nat) (w : World) (hH : Rk .u8 p w hv hs) (hi : i / 2 < hs.length) (him : i ≤ 1048576) :
    Calls Try.prog 45 #[hv, zV i] w fun e w' => e = .returned (zV (s4 (nib hs i))) ∧ w' = w := by
  obtain ⟨ha, hc, hhv, _⟩ := hH.shape
  subst hhv
  obtain ⟨_, _, _, hcl⟩ := hH.cells
  obtain ⟨b, off, rfl, _, _, hcell⟩ := hcl (by omega)
  have g1 := hcell (i / 2) hi
  obtain ⟨x0, x1⟩ := hH.get (i / 2)
  obtain ⟨q, hq⟩ : ∃ q, i / 2 = q := ⟨_, rfl⟩
  have hq' : (i : Int) / 2 = (q : Int) := by omega
  obtain ⟨lh, hlh⟩ : ∃ lh, hs.length = lh := ⟨_, rfl⟩
  have hql : (q : Int) < (lh : Int) := by omega
  rw [hq] at g1 x0 x1
  rw [hlh]
  by_cases hev : i % 2 = 0
  · have HN : Hid (nib hs i = hs.getD q 0) := by show _ = _; unfold nib; rw [if_pos hev, hq]
    have hev' : (i : Int) % 2 = 0 := by omega
    rw [HN.out]
    clear hH hcell hcl hi hev hlh
    obtain ⟨x, hx⟩ : ∃ x, x = hs.getD q 0 := ⟨_, rfl⟩
    rw [← hx] at g1 x0 x1 ⊢
    clear hx
    have hs4 := s4_shift x0 x1
    go_enter Try.func45, Try.ntmps45
    go_wp2
    go_ret
    exact ⟨by rw [← hs4]; simp, rfl⟩
  · have HN : Hid (nib hs i = hs.getD q 0 / 16) := by show _ = _; unfold nib; rw [if_neg hev, hq]
    have hev' : (i : Int) % 2 = 1 := by omega
    rw [HN.out]
    clear hH hcell hcl hi hev hlh
    obtain ⟨x, hx⟩ : ∃ x, x = hs.getD q 0 := ⟨_, rfl⟩
    rw [← hx] at g1 x0 x1 ⊢
    clear hx
    have hs4 := s4_shift (x := x / 16) (by omega) (by omega)
    go_enter Try.func45, Try.ntmps45
    go_wp2
    go_ret
    exact ⟨by rw [← hs4]; simp, rfl⟩
end Go.Proofs.Ytlepdogfgpeogaa
