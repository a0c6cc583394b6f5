/-
  The first of a queue is taken.
-/
import Derived.Test.YtdponkpgokncdaaGuk
namespace Go.Proofs.Ytdponkpgokncdaa
open Go.RowKit Go.Lib Go.Maps

theorem run_cut1 {g off n cap : Nat} (hn : n + 1 ≤ cap) (W : World) : (Instr.slice 58 (.slice (some ⟨g, off, none⟩) (n + 1) cap) (some (.int .i64 1)) none none).run Try.prog W = .ok (.slice (some ⟨g, if cap = 1 then off else off + 1, none⟩) n (cap - 1)) W := by
  have hz : (sizeOf 3).run Try.prog W = .ok 1 W := by kernel_rfl
  unfold Instr.slice
  rw [Sem.run_bind, run_underlying Try.underlying58 W]
  have e1 : (0 : Int) ≤ 1 ∧ (1 : Int) ≤ ((n + 1 : Nat) : Int) := by omega
  simp only [Result.andThen, Sem.run_bind, Sem.run_pure, Instr.sliceBounds, Instr.sliceBound, asIntOf, e1, and_self, if_true, hz, Option.isSome_none]
  by_cases h : cap = 1
  · subst h
    simp
  · have h' : ¬ cap = (1 : Int).toNat := h
    rw [if_neg h', if_neg h]
    simp [Addr.add_lit]
theorem QuR.pop {B : Nat} {W : World} {v : Value} {x : Int} {r : List Int} (h : QuR B W v (x :: r)) : ∃ g off cap v', v = .slice (some ⟨g, off, none⟩) (r.length + 1) cap ∧ W.cell? ⟨g, off, none⟩ = some (zV x) ∧ (∀ X, (Instr.slice 58 v (some (.int .i64 1)) none none).run Try.prog X = .ok v' X) ∧ QuR B W v' r := by
  rcases h with ⟨_, e⟩ | ⟨g, off, cap, cur, rfl, hg, hh, hc, hsz, hcell⟩
  · cases e
  · rw [List.length_cons] at hc hcell
    have h0 := hcell 0 (by omega)
    refine ⟨g, off, cap, _, rfl, ?_, fun X => run_cut1 hc X, .inr ⟨g, _, cap - 1, cur, rfl, hg, hh, by omega, ?_, fun i hi => ?_⟩⟩
    · rw [Lib.cell_of_heap hh]
      exact h0
    · split <;> omega
    · rw [if_neg (by omega)]
      have := hcell (i + 1) (by omega)
      rw [show off + 1 + i = off + (i + 1) by omega]
      exact this
end Go.Proofs.Ytdponkpgokncdaa
