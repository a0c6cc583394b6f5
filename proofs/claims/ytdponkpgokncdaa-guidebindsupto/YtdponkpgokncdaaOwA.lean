/-
  Rows of one's own: where they lie, and that rows of unlike types lie apart.
-/
import Derived.Test.YtdponkpgokncdaaBase
namespace Go.Proofs.Ytdponkpgokncdaa
open Go.RowKit Go.Lib Go.Maps

theorem own_ge3 {w : World} {base k : Nat} {e : TypeId} {v : Value} {n q : Nat} {xs : List Value} (h : w.ownsRow base e k v n xs) (hk : v.ownBlock = some q) : base ≤ q := by
  rcases h.2 with ⟨rfl, _⟩ | ⟨g', cap', cur, hv, hb, _⟩
  · simp [Value.ownBlock] at hk
  · rw [hv] at hk; simp [Value.ownBlock] at hk; omega
/-- Rows of unlike types lie in unlike blocks. -/
theorem own_apart {w : World} {b1 b2 k1 k2 : Nat} {e1 e2 : TypeId} {v1 v2 : Value} {n1 n2 q : Nat} {x1 x2 : List Value} (h1 : w.ownsRow b1 e1 k1 v1 n1 x1) (h2 : w.ownsRow b2 e2 k2 v2 n2 x2) (hne : e1 ≠ e2) (k1' : v1.ownBlock = some q) (k2' : v2.ownBlock = some q) : False := by
  rcases h1.2 with ⟨rfl, _⟩ | ⟨g, cap, cur, hv, _, hh, _⟩
  · simp [Value.ownBlock] at k1'
  · rcases h2.2 with ⟨rfl, _⟩ | ⟨g', cap', cur', hv', _, hh', _⟩
    · simp [Value.ownBlock] at k2'
    · rw [hv] at k1'
      rw [hv'] at k2'
      simp [Value.ownBlock] at k1' k2'
      rw [k1'] at hh
      rw [k2', hh] at hh'
      simp only [Option.some.injEq, Obj.cells.injEq] at hh'
      exact hne hh'.2.1
theorem ownBlock_ne3 {w : World} {B k : Nat} {e T : TypeId} {v : Value} {n : Nat} {xs : List Value} {b : Nat} {cs : Array Value} {fr : Nat × Nat} (hown : w.ownsRow B e k v n xs) (hb : w.heap[b]? = some (.cells cs T fr)) (hTe : T ≠ e) : v.ownBlock ≠ some b := by
  rcases hown.2 with ⟨rfl, _⟩ | ⟨g, cap, cur, rfl, _, hg, _⟩
  · simp [Value.ownBlock]
  · intro h
    simp only [Value.ownBlock, Option.some.injEq] at h
    subst h
    rw [hg] at hb
    simp only [Option.some.injEq, Obj.cells.injEq] at hb
    exact hTe hb.2.1.symm
end Go.Proofs.Ytdponkpgokncdaa
