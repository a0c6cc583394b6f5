/-
  Merges in memory; what the map of ranks tells.
-/
import Derived.Test.YtdponkpgokncdaaVod
namespace Go.Proofs.Ytdponkpgokncdaa
open Go.RowKit Go.Lib Go.Maps

/-- A row of merges in a block that p allows. -/
def MgR (p : Nat → Prop) (W : World) (v : Value) (M : List Mg) : Prop :=
  ∃ ao cap, v = .slice ao M.length cap ∧ (ao = none → cap = 0) ∧ M.length ≤ cap ∧ (∀ i, i < M.length → I64 (gM M i).l ∧ I64 (gM M i).r ∧ I64 (gM M i).o) ∧
    (0 < M.length → ∃ b off, ao = some ⟨b, off, none⟩ ∧ p b ∧ b < W.heap.size ∧ ∀ i, i < M.length → W.cell? ⟨b, off + i * 3, none⟩ = some (zV (gM M i).l) ∧ W.cell? ⟨b, off + i * 3 + 1, none⟩ = some (zV (gM M i).r) ∧ W.cell? ⟨b, off + i * 3 + 2, none⟩ = some (zV (gM M i).o))
theorem MgR.kept {p : Nat → Prop} {S : Nat → Prop} {W W' : World} {v : Value} {M : List Mg} (h : MgR p W v M) (hk : Kept S W W') (hn : ∀ b, p b → ¬ S b) : MgR p W' v M := by
  obtain ⟨ao, cap, h1, h2, h3, h4, h5⟩ := h
  refine ⟨ao, cap, h1, h2, h3, h4, fun h0 => ?_⟩
  obtain ⟨b, off, ha, hp, hb, hc⟩ := h5 h0
  refine ⟨b, off, ha, hp, Nat.lt_of_lt_of_le hb hk.size, fun i hi => ?_⟩
  obtain ⟨c0, c1, c2⟩ := hc i hi
  exact ⟨(hk.cell (p := ⟨b, off + i * 3, none⟩) hb (hn b hp)).trans c0, (hk.cell (p := ⟨b, off + i * 3 + 1, none⟩) hb (hn b hp)).trans c1, (hk.cell (p := ⟨b, off + i * 3 + 2, none⟩) hb (hn b hp)).trans c2⟩
theorem MgR.shape {p : Nat → Prop} {W : World} {v : Value} {M : List Mg} (h : MgR p W v M) : ∃ ao cap, v = .slice ao M.length cap := by obtain ⟨ao, cap, h1, _⟩ := h; exact ⟨ao, cap, h1⟩

/-- What the map of ranks tells. -/
def lstV : Value → List Value
  | .agg c => c.toList
  | _ => []
def rkV (M : List Mg) (k : Nat) (v : Value) : Option Int := match lstV v with
  | [.int .i64 a, .int .i64 b] => (rkT M k a b).map Int.ofNat
  | _ => none
theorem rkV_pair (M : List Mg) (k : Nat) (a b : Int) : rkV M k (pV a b) = (rkT M k a b).map Int.ofNat := rfl
end Go.Proofs.Ytdponkpgokncdaa
