/-
  Texts and merges as they are handed in.
-/
import Derived.Test.YtdponkpgokncdaaVoeM
namespace Go.Proofs.Ytdponkpgokncdaa
open Go.RowKit Go.Lib Go.Maps

abbrev sV (t : List UInt8) : Value := .string ⟨t.toArray⟩
/-- A row of texts in a block that p allows. -/
def TxR (p : Nat → Prop) (W : World) (v : Value) (T : List (List UInt8)) : Prop :=
  ∃ ao cap, v = .slice ao T.length cap ∧ (ao = none → cap = 0) ∧ T.length ≤ cap ∧ (∀ i, i < T.length → (gT T i).length ≤ maxLen) ∧ T.length * 16 ≤ 140737488351232 ∧
    (0 < T.length → ∃ b off, ao = some ⟨b, off, none⟩ ∧ p b ∧ b < W.heap.size ∧ ∀ i, i < T.length → W.cell? ⟨b, off + i, none⟩ = some (sV (gT T i)))
theorem TxR.kept {p : Nat → Prop} {S : Nat → Prop} {W W' : World} {v : Value} {T : List (List UInt8)} (h : TxR p W v T) (hk : Kept S W W') (hn : ∀ b, p b → ¬ S b) : TxR p W' v T := by
  obtain ⟨ao, cap, h1, h2, h3, h4, h6, h5⟩ := h
  refine ⟨ao, cap, h1, h2, h3, h4, h6, fun h0 => ?_⟩
  obtain ⟨b, off, ha, hp, hb, hc⟩ := h5 h0
  exact ⟨b, off, ha, hp, Nat.lt_of_lt_of_le hb hk.size, fun i hi => (hk.cell (p := ⟨b, off + i, none⟩) hb (hn b hp)).trans (hc i hi)⟩
theorem TxR.fresh {p : Nat → Prop} {W W' : World} {v : Value} {T : List (List UInt8)} (h : TxR p W v T) (hk : Fresh W W') : TxR p W' v T := h.kept hk (fun _ _ e => e)
theorem MgR.fresh {p : Nat → Prop} {W W' : World} {v : Value} {M : List Mg} (h : MgR p W v M) (hk : Fresh W W') : MgR p W' v M := h.kept hk (fun _ _ e => e)
theorem TxR.mono {p q : Nat → Prop} {W : World} {v : Value} {T : List (List UInt8)} (h : TxR p W v T) (hpq : ∀ b, p b → q b) : TxR q W v T := by
  obtain ⟨ao, cap, h1, h2, h3, h4, h6, h5⟩ := h
  exact ⟨ao, cap, h1, h2, h3, h4, h6, fun h0 => let ⟨b, off, ha, hp, hb, hc⟩ := h5 h0; ⟨b, off, ha, hpq b hp, hb, hc⟩⟩
theorem MgR.mono {p q : Nat → Prop} {W : World} {v : Value} {M : List Mg} (h : MgR p W v M) (hpq : ∀ b, p b → q b) : MgR q W v M := by
  obtain ⟨ao, cap, h1, h2, h3, h4, h5⟩ := h
  exact ⟨ao, cap, h1, h2, h3, h4, fun h0 => let ⟨b, off, ha, hp, hb, hc⟩ := h5 h0; ⟨b, off, ha, hpq b hp, hb, hc⟩⟩
theorem TxR.low {p : Nat → Prop} {W : World} {v : Value} {T : List (List UInt8)} (h : TxR p W v T) : TxR (fun b => b < W.heap.size) W v T := by
  obtain ⟨ao, cap, h1, h2, h3, h4, h6, h5⟩ := h
  exact ⟨ao, cap, h1, h2, h3, h4, h6, fun h0 => let ⟨b, off, ha, hp, hb, hc⟩ := h5 h0; ⟨b, off, ha, hb, hb, hc⟩⟩
theorem MgR.low {p : Nat → Prop} {W : World} {v : Value} {M : List Mg} (h : MgR p W v M) : MgR (fun b => b < W.heap.size) W v M := by
  obtain ⟨ao, cap, h1, h2, h3, h4, h5⟩ := h
  exact ⟨ao, cap, h1, h2, h3, h4, fun h0 => let ⟨b, off, ha, hp, hb, hc⟩ := h5 h0; ⟨b, off, ha, hb, hb, hc⟩⟩
theorem TxR.cells {p : Nat → Prop} {W : World} {ao : Option Addr} {n cap : Nat} {T : List (List UInt8)} (h : TxR p W (.slice ao n cap) T) : T.length = n ∧ n ≤ cap ∧ (0 < n → ∃ b off, ao = some ⟨b, off, none⟩ ∧ p b ∧ b < W.heap.size ∧ ∀ i, i < n → W.cell? ⟨b, off + i, none⟩ = some (sV (gT T i))) := by
  obtain ⟨ao', cap', hv, h2, h3, h4, h6, h5⟩ := h
  injection hv with e1 e2 e3
  subst e1 e2 e3
  exact ⟨rfl, h3, h5⟩
theorem TxR.shape {p : Nat → Prop} {W : World} {v : Value} {T : List (List UInt8)} (h : TxR p W v T) : ∃ ao cap, v = .slice ao T.length cap := by obtain ⟨ao, cap, h1, _⟩ := h; exact ⟨ao, cap, h1⟩
end Go.Proofs.Ytdponkpgokncdaa
