/-
  The document's Sine.
-/
import Derived.Test.YtkemaofclahaiaaDoorRoa
namespace Go.Proofs.YtkemaofclahaiaaDoor
open Go.RowKit Go.Lib Go.Maps

/-- The document's row of sines. -/
def sV : Array Value := (sT.map (Value.int .i8)).toArray
theorem sV_get (i : Nat) (hi : i < 65) : sV[i]? = some (.int .i8 (sT.getD i 0)) := by
  simp only [sV, List.getElem?_toArray, List.getElem?_map, List.getD_eq_getElem?_getD]
  rw [List.getElem?_eq_getElem (show i < sT.length from hi)]
  rfl
theorem sn_at {a : Int} {r : Nat} (h : a % 256 = r) (hr : r < 256) : (r ≤ 64 → sn a = sT.getD r 0) ∧ (64 < r → r ≤ 128 → sn a = sT.getD (128 - r) 0) ∧ (128 < r → r ≤ 192 → sn a = - sT.getD (r - 128) 0) ∧ (192 < r → sn a = - sT.getD (256 - r) 0) := by
  have e : sn a = snN r := by unfold sn; rw [h, Int.toNat_natCast]
  rw [e]
  unfold snN
  refine ⟨fun h1 => ?_, fun h1 h2 => ?_, fun h1 h2 => ?_, fun h1 => ?_⟩
  · rw [if_pos (by omega), Nat.min_eq_left (by omega)]
  · by_cases h3 : r < 128
    · rw [if_pos h3, Nat.min_eq_right (by omega)]
    · obtain rfl : r = 128 := by omega
      rfl
  · rw [if_neg (by omega), Nat.min_eq_left (by omega)]
  · rw [if_neg (by omega), Nat.min_eq_right (by omega)]

set_option maxHeartbeats 4000000 in
set_option maxRecDepth 100000 in
theorem refSine_any (a : Int) (w : World) :
    Calls Tryd.prog 16 #[zV a] w fun e w' => e = .returned (.int .i8 (sn a)) ∧ Fresh w w' := by
  have hb := tmod_bounds a 256 (by decide)
  obtain ⟨f1, f2⟩ := tdiv_floor a 256 (by decide)
  obtain ⟨r, hr⟩ : ∃ r : Nat, a % 256 = r := ⟨(a % 256).toNat, by omega⟩
  have hr2 : r < 256 := by omega
  obtain ⟨s1, s2, s3, s4⟩ := sn_at hr hr2
  have HF : Hid (Fresh w (w.alloc (.cells sV 33))) := (Kept.refl _ w).alloc _
  have hN := heap_alloc_new w (.cells sV 33)
  have hc : ∀ i, i < 65 → (w.alloc (.cells sV 33)).cell? ⟨w.heap.size, i, none⟩ = some (.int .i8 (sT.getD i 0)) := fun i hi => by rw [Lib.cell_of_heap hN]; exact sV_get i hi
  obtain ⟨t, ht⟩ : ∃ t, a.tmod 256 = t := ⟨_, rfl⟩
  rw [ht] at f1 f2 hb
  rw [hr] at f1 f2
  have hW : ∃ W0, W0 = w.alloc (.cells sV 33) := ⟨_, rfl⟩
  obtain ⟨W0, hW0⟩ := hW
  rw [← hW0] at HF hc
  have hW1 : w.alloc (.cells #[.int .i8 0, .int .i8 2, .int .i8 3, .int .i8 5, .int .i8 6, .int .i8 8, .int .i8 9, .int .i8 11, .int .i8 12, .int .i8 14, .int .i8 16, .int .i8 17, .int .i8 19, .int .i8 20, .int .i8 22, .int .i8 23, .int .i8 24, .int .i8 26, .int .i8 27, .int .i8 29, .int .i8 30, .int .i8 32, .int .i8 33, .int .i8 34, .int .i8 36, .int .i8 37, .int .i8 38, .int .i8 39, .int .i8 41, .int .i8 42, .int .i8 43, .int .i8 44, .int .i8 45, .int .i8 46, .int .i8 47, .int .i8 48, .int .i8 49, .int .i8 50, .int .i8 51, .int .i8 52, .int .i8 53, .int .i8 54, .int .i8 55, .int .i8 56, .int .i8 56, .int .i8 57, .int .i8 58, .int .i8 59, .int .i8 59, .int .i8 60, .int .i8 60, .int .i8 61, .int .i8 61, .int .i8 62, .int .i8 62, .int .i8 62, .int .i8 63, .int .i8 63, .int .i8 63, .int .i8 64, .int .i8 64, .int .i8 64, .int .i8 64, .int .i8 64, .int .i8 64] 33) = W0 := hW0.symm
  clear hW0 hN
  have Q : (∃ z, 0 ≤ z ∧ z ≤ 64 ∧ r ≤ 64 ∧ W0.cell? ⟨w.heap.size, r, none⟩ = some (.int .i8 z) ∧ sn a = z) ∨ (∃ z, 0 ≤ z ∧ z ≤ 64 ∧ (64 < r ∧ r ≤ 128) ∧ W0.cell? ⟨w.heap.size, 128 - r, none⟩ = some (.int .i8 z) ∧ sn a = z) ∨ (∃ z, 0 ≤ z ∧ z ≤ 64 ∧ (128 < r ∧ r ≤ 192) ∧ W0.cell? ⟨w.heap.size, r - 128, none⟩ = some (.int .i8 z) ∧ sn a = -z) ∨ (∃ z, 0 ≤ z ∧ z ≤ 64 ∧ 192 < r ∧ W0.cell? ⟨w.heap.size, 256 - r, none⟩ = some (.int .i8 z) ∧ sn a = -z) := by
    rcases Nat.lt_or_ge r 65 with h | h
    · exact .inl ⟨_, (sT_in r h).1, (sT_in r h).2, by omega, hc r h, s1 (by omega)⟩
    · rcases Nat.lt_or_ge r 129 with h' | h'
      · exact .inr (.inl ⟨_, (sT_in (128 - r) (by omega)).1, (sT_in (128 - r) (by omega)).2, ⟨by omega, by omega⟩, hc (128 - r) (by omega), s2 (by omega) (by omega)⟩)
      · rcases Nat.lt_or_ge r 193 with h'' | h''
        · exact .inr (.inr (.inl ⟨_, (sT_in (r - 128) (by omega)).1, (sT_in (r - 128) (by omega)).2, ⟨by omega, by omega⟩, hc (r - 128) (by omega), s3 (by omega) (by omega)⟩))
        · exact .inr (.inr (.inr ⟨_, (sT_in (256 - r) (by omega)).1, (sT_in (256 - r) (by omega)).2, by omega, hc (256 - r) (by omega), s4 (by omega)⟩))
  have T : (t < 0 ∧ t + 256 = (r : Int)) ∨ (¬ t < 0 ∧ t = (r : Int)) := by
    rcases Int.lt_or_le t 0 with h | h
    · exact .inl ⟨h, (f1 h).2⟩
    · exact .inr ⟨by omega, (f2 h).2⟩
  clear hc s1 s2 s3 s4 f1 f2 hr
  rcases Q with ⟨z, z0, z1, q, g, e⟩ | ⟨z, z0, z1, q, g, e⟩ | ⟨z, z0, z1, q, g, e⟩ | ⟨z, z0, z1, q, g, e⟩
  all_goals
    rw [e]
    clear e
    rcases T with ⟨t0, t1⟩ | ⟨t0, t1⟩
    · go_enter Tryd.func16, Tryd.ntmps16
      go_wp2
      go_ret
      exact ⟨rfl, HF.out⟩
    · subst t1
      go_enter Tryd.func16, Tryd.ntmps16
      go_wp2
      go_ret
      exact ⟨rfl, HF.out⟩
end Go.Proofs.YtkemaofclahaiaaDoor
