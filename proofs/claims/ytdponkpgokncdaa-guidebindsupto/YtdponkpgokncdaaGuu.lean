/-
  The document's state and edge; two lists compared.
-/
import Derived.Test.YtdponkpgokncdaaGuD
import Derived.Test.YtdponkpgokncdaaGut
namespace Go.Proofs.Ytdponkpgokncdaa
open Go.RowKit Go.Lib Go.Maps

set_option maxHeartbeats 500000 in
set_option maxRecDepth 100000 in
theorem rstate_any (ao eo : Option Addr) (n ac k ec : Nat) (s : Int) (w : World) : Calls Try.prog 31 #[.agg #[.slice ao n ac, .slice eo k ec], zV s] w fun e w' => e = .returned (.bool (decide (0 ≤ s) && decide (s < (n : Int)))) ∧ w' = w.alloc (.cells #[.slice ao n ac, .slice eo k ec] 28) := by
  by_cases h0 : 0 ≤ s
  · by_cases h1 : s < (n : Int)
    · have d0 : decide (0 ≤ s) = true := decide_eq_true h0
      have d1 : decide (s < (n : Int)) = true := decide_eq_true h1
      go_enter Try.func31, Try.ntmps31
      go_wp2
      go_ret
      exact ⟨by rw [d0, d1]; rfl, rfl⟩
    · have d0 : decide (0 ≤ s) = true := decide_eq_true h0
      have d1 : decide (s < (n : Int)) = false := decide_eq_false h1
      go_enter Try.func31, Try.ntmps31
      go_wp2
      go_ret
      exact ⟨rfl, rfl⟩
  · have d0 : decide (0 ≤ s) = false := decide_eq_false h0
    go_enter Try.func31, Try.ntmps31
    go_wp2
    go_ret
    exact ⟨rfl, rfl⟩
/-- Two lists are the same. -/
theorem truths_any {p q : Nat → Prop} (A L : List Bool) (v u : Value) (w : World) (h1 : RbL p w v A) (h2 : RbL q w u L) (he : A = L) : Calls Try.prog 15 #[v, u] w fun e w' => e = .returned (.bool true) ∧ Fresh w w' := by
  subst he
  obtain ⟨ao, ac, rfl⟩ := h1.shape
  obtain ⟨bo, bc, rfl⟩ := h2.shape
  have HC1 : Hid (∀ X, Fresh w X → ∀ i, i < A.length → ∃ b off, ao = some ⟨b, off, none⟩ ∧ X.cell? ⟨b, off + i, none⟩ = some (.bool (A.getD i false))) := fun X hX i hi => by
    obtain ⟨b, off, e, _, _, hc⟩ := (h1.fresh hX).cells (by omega)
    exact ⟨b, off, e, hc i hi⟩
  have HC2 : Hid (∀ X, Fresh w X → ∀ i, i < A.length → ∃ b off, bo = some ⟨b, off, none⟩ ∧ X.cell? ⟨b, off + i, none⟩ = some (.bool (A.getD i false))) := fun X hX i hi => by
    obtain ⟨b, off, e, _, _, hc⟩ := (h2.fresh hX).cells (by omega)
    exact ⟨b, off, e, hc i hi⟩
  have HN : Hid (A.length ≤ 140737488351232) := h1.len
  clear h1 h2
  obtain ⟨n, hn⟩ : ∃ n, A.length = n := ⟨_, rfl⟩
  rw [hn] at HC1 HC2 HN
  rw [hn]
  clear hn
  go_enter Try.func15, Try.ntmps15
  have hnn : ((n : Int) == (n : Int)) = true := beq_self_eq_true _
  go_wp2
  go_loopw [5] (fun iv wr => ∃ i : Nat, i ≤ n ∧ iv = zV i ∧ Hid (Fresh w wr)) (fun iv _ => n - (RowKit.intOf iv).toNat)
  case atStart => exact ⟨0, Nat.zero_le _, rfl, Kept.refl _ _⟩
  case round =>
    obtain ⟨i, hi, rfl, HF⟩ := hrel
    by_cases hlt : i < n
    · have hlt' : (i : Int) < (n : Int) := by omega
      obtain ⟨b1, o1, rfl, c1⟩ := HC1.out wr HF.out i hlt
      obtain ⟨b2, o2, rfl, c2⟩ := HC2.out wr HF.out i hlt
      have hn1 : n ≤ 140737488351232 := HN.out
      clear HC1 HC2
      cases A.getD i false with
      | true =>
        go_wp2
        go_quiet (fail)
        go_wp2
        go_roundw
        case rel => exact ⟨i + 1, hlt, by go_num, HF.out.drewN nq⟩
        case measure => simp [RowKit.intOf]; omega
      | false =>
        go_wp2
        go_quiet (fail)
        go_wp2
        go_roundw
        case rel => exact ⟨i + 1, hlt, by go_num, HF.out.drewN nq⟩
        case measure => simp [RowKit.intOf]; omega
    · obtain rfl : i = n := by omega
      have hlt' : ¬ ((i : Int) < (i : Int)) := by omega
      clear HC1 HC2
      go_wp2
      go_ret
      exact ⟨rfl, HF.out⟩
end Go.Proofs.Ytdponkpgokncdaa
