/-
  Argmax, the package's.
-/
import Derived.Test.YtohoppnpbgplnabDoorFrw
namespace Go.Proofs.YtohoppnpbgplnabDoor
open Go.RowKit

/-- The first place of the greatest among the first k. -/
def am (zs : List Int) : Nat → Int
  | 0 => -1
  | k + 1 => if am zs k < 0 ∨ zs.getD (am zs k).toNat 0 < zs.getD k 0 then k else am zs k
theorem am_bound (zs : List Int) : ∀ k, -1 ≤ am zs k ∧ am zs k < k ∨ (k = 0 ∧ am zs k = -1)
  | 0 => Or.inr ⟨rfl, rfl⟩
  | k + 1 => by
    have h := am_bound zs k
    left
    unfold am
    split <;> omega
theorem am_lo (zs : List Int) (k : Nat) : -1 ≤ am zs k := by have := am_bound zs k; omega
theorem am_hi (zs : List Int) (k : Nat) : am zs k < k ∨ am zs k < 0 := by have := am_bound zs k; omega

set_option maxHeartbeats 800000 in
theorem argmax_any (p : Nat → Prop) (rv : Value) (zs : List Int) (w : World) (hr : Rw p w rv zs) :
    Calls Tryd.prog 35 #[rv] w fun e w' => e = .returned (.int .i64 (am zs zs.length)) ∧ Drew w w' := by
  obtain ⟨ao, cap, rfl, hl, hc, _⟩ := hr
  go_enter Tryd.func35, Tryd.ntmps35
  go_wp2
  go_loopw [3, 8] (fun b i wr => ∃ j : Nat, j ≤ zs.length ∧ i = .int .i64 j ∧ b = .int .i64 (am zs j) ∧ Drew w wr) (fun _ i _ => zs.length - (intOf i).toNat)
  case atStart => exact ⟨0, by omega, rfl, rfl, Drew.refl _⟩
  case round =>
    obtain ⟨j, hj, rfl, rfl, hwr⟩ := hrel
    by_cases hlt : j < zs.length
    · obtain ⟨b, off, rfl, _, _, hcell⟩ := hc (fun e => by rw [e] at hlt; simp at hlt)
      have g1 : wr.cell? ⟨b, off + j, none⟩ = some (.int .i64 (zs.getD j 0)) := by obtain ⟨n, rfl⟩ := hwr; exact hcell j hlt
      have HW : Hid (Drew w wr) := hwr
      have b0 := am_lo zs j
      have b1 := am_hi zs j
      have HS : Hid (am zs (j + 1) = if am zs j < 0 ∨ zs.getD (am zs j).toNat 0 < zs.getD j 0 then (j : Int) else am zs j) := rfl
      by_cases hneg : am zs j < 0
      · have hm : am zs j = -1 := by omega
        rw [hm] at HS ⊢
        clear hcell hwr hc b0 b1 hneg hm
        generalize zs.getD j 0 = x at *
        go_wp2
        go_roundw
        case rel => exact ⟨j + 1, by omega, by go_num, by rw [HS.out, if_pos (Or.inl (by omega))], HW.out⟩
        case measure => simp [intOf]; omega
      · obtain ⟨m, hm⟩ : ∃ m : Nat, am zs j = m := ⟨(am zs j).toNat, by omega⟩
        rw [hm] at HS b1 ⊢
        have g2 : wr.cell? ⟨b, off + m, none⟩ = some (.int .i64 (zs.getD m 0)) := by obtain ⟨n, rfl⟩ := hwr; exact hcell m (by omega)
        rw [Int.toNat_natCast] at HS
        clear hcell hwr hc b0 hm hneg
        generalize zs.getD j 0 = x at *
        generalize zs.getD m 0 = y at *
        by_cases hxy : y < x
        · go_wp2
          go_roundw
          case rel => exact ⟨j + 1, by omega, by go_num, by rw [HS.out, if_pos (Or.inr hxy)], HW.out⟩
          case measure => simp [intOf]; omega
        · go_wp2
          go_roundw
          case rel => exact ⟨j + 1, by omega, by go_num, by rw [HS.out, if_neg (by omega)], HW.out⟩
          case measure => simp [intOf]; omega
    · obtain rfl : j = zs.length := by omega
      have HW : Hid (Drew w wr) := hwr
      clear hwr
      go_wp2
      go_ret
      exact ⟨rfl, HW.out⟩

end Go.Proofs.YtohoppnpbgplnabDoor
