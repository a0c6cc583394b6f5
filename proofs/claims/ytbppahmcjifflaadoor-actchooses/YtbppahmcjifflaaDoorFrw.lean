/-
  Rows of int64.
-/
import Derived.Test.YtbppahmcjifflaaDoorFwf
namespace Go.Proofs.YtbppahmcjifflaaDoor
open Go.RowKit

/-- v is a row of these numbers, in a block that p allows. -/
def Rw (p : Nat → Prop) (W : World) (v : Value) (zs : List Int) : Prop :=
  ∃ ao cap, v = .slice ao zs.length cap ∧ zs.length ≤ 17592186044416 ∧
    (zs ≠ [] → ∃ b off, ao = some ⟨b, off, none⟩ ∧ p b ∧ b < W.heap.size ∧ ∀ i, i < zs.length → W.cell? ⟨b, off + i, none⟩ = some (.int .i64 (zs.getD i 0))) ∧
    (∀ z ∈ zs, I64 z) ∧ (ao = none → cap = 0)

theorem Rw.kept {p : Nat → Prop} {S : Nat → Prop} {W W' : World} {v : Value} {zs : List Int} (h : Rw p W v zs) (hk : Kept S W W') (hn : ∀ b, p b → ¬ S b) : Rw p W' v zs := by
  obtain ⟨ao, cap, hv, hl, hc, hz⟩ := h
  refine ⟨ao, cap, hv, hl, fun h0 => ?_, hz⟩
  obtain ⟨b, off, ha, hp, hb, hcell⟩ := hc h0
  exact ⟨b, off, ha, hp, Nat.lt_of_lt_of_le hb hk.size, fun i hi => (hk.cell (p := ⟨b, off + i, none⟩) hb (hn b hp)).trans (hcell i hi)⟩
theorem Rw.mono {p q : Nat → Prop} {W : World} {v : Value} {zs : List Int} (h : Rw p W v zs) (hpq : ∀ b, p b → q b) : Rw q W v zs := by
  obtain ⟨ao, cap, hv, hl, hc, hz⟩ := h
  exact ⟨ao, cap, hv, hl, fun h0 => let ⟨b, off, ha, hp, r⟩ := hc h0; ⟨b, off, ha, hpq b hp, r⟩, hz⟩
theorem Rw.get {p : Nat → Prop} {W : World} {v : Value} {zs : List Int} (h : Rw p W v zs) (i : Nat) : I64 (zs.getD i 0) := by
  obtain ⟨ao, cap, hv, hl, hc, hz, _⟩ := h
  rcases Nat.lt_or_ge i zs.length with h | h
  · rw [List.getD_eq_getElem?_getD, List.getElem?_eq_getElem h]
    exact hz _ (List.getElem_mem h)
  · rw [List.getD_eq_getElem?_getD, List.getElem?_eq_none h]
    exact ⟨by decide, by decide⟩

theorem Rk.rw {p : Nat → Prop} {W : World} {v : Value} {zs : List Int} (h : Rk .i64 p W v zs) : Rw p W v zs := by
  obtain ⟨ao, cap, h1, h2, h3, h4, h5, _⟩ := h
  exact ⟨ao, cap, h1, by simp only [kb] at h2; omega, h3, h4, h5⟩
end Go.Proofs.YtbppahmcjifflaaDoor
