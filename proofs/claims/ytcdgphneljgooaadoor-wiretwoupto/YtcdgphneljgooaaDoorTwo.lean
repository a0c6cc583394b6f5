/-
  Two writers and two readers in turns: what holds between two rounds, and how each call hands it on.
-/
import Derived.Test.YtcdgphneljgooaaDoorSiz
import Derived.Test.YtcdgphneljgooaaDoorRe
import Derived.Test.YtcdgphneljgooaaDoorBulk
namespace Go.Proofs.YtcdgphneljgooaaDoor.Two
open Go.ChangeShapes Go.WideShapes Go.ChangeAt Go.RowKit

/-- Two writers, two readers, the document's two readers. -/
structure St (w X : World) (A1 A2 R1 R2 M1 M2 : Nat) (s t : ByteArray) (u1 u2 : Value) (b1 b2 : List UInt8) (i1 i2 : Nat) : Prop where
  w1 : WrAt X A1 u1 b1
  w2 : WrAt X A2 u2 b2
  r1 : RdAt X R1 s i1
  r2 : RdAt X R2 t i2
  m1 : X.heap[M1]? = some (.cells #[.string s, .int .i64 i1] 51 (0, 0))
  m2 : X.heap[M2]? = some (.cells #[.string t, .int .i64 i2] 51 (0, 0))
  g1 : ∀ g, u1.ownBlock = some g → w.heap.size ≤ g
  g2 : ∀ g, u2.ownBlock = some g → w.heap.size ≤ g
  ap : ∀ g, u1.ownBlock = some g → u2.ownBlock ≠ some g
  fr : Fresh w X

theorem St.swap {w X : World} {A1 A2 R1 R2 M1 M2 : Nat} {s t : ByteArray} {u1 u2 : Value} {b1 b2 : List UInt8} {i1 i2 : Nat} (h : St w X A1 A2 R1 R2 M1 M2 s t u1 u2 b1 b2 i1 i2) : St w X A2 A1 R2 R1 M2 M1 t s u2 u1 b2 b1 i2 i1 :=
  ⟨h.w2, h.w1, h.r2, h.r1, h.m2, h.m1, h.g2, h.g1, fun g e e' => h.ap g e' e, h.fr⟩

theorem St.kept {S : Nat → Prop} {w X X' : World} {A1 A2 R1 R2 M1 M2 : Nat} {s t : ByteArray} {u1 u2 : Value} {b1 b2 : List UInt8} {i1 i2 : Nat} (h : St w X A1 A2 R1 R2 M1 M2 s t u1 u2 b1 b2 i1 i2) (hk : Kept S X X') (hS : ∀ k, ¬ S k) : St w X' A1 A2 R1 R2 M1 M2 s t u1 u2 b1 b2 i1 i2 :=
  ⟨h.w1.kept hk (hS _) (fun _ _ => hS _), h.w2.kept hk (hS _) (fun _ _ => hS _), h.r1.kept hk (hS _), h.r2.kept hk (hS _), hk.at h.m1 (hS _), hk.at h.m2 (hS _), h.g1, h.g2, h.ap, h.fr.trans hk (fun k _ e => absurd e (hS k))⟩

theorem ne_type {X : World} {a b : Nat} {c d : Array Value} {t t' : TypeId} {f f' : Nat × Nat} (h1 : X.heap[a]? = some (.cells c t f)) (h2 : X.heap[b]? = some (.cells d t' f')) (ht : t ≠ t') : a ≠ b := fun e => by
  subst e
  rw [h1] at h2
  simp at h2
  exact ht h2.2.1
theorem row_ne {X : World} {B n sz b : Nat} {t t' : TypeId} {v : Value} {xs : List Value} {d : Array Value} {f : Nat × Nat} (h : X.ownsRow B t sz v n xs) (h2 : X.heap[b]? = some (.cells d t' f)) (ht : t ≠ t') : v.ownBlock ≠ some b := fun e => by
  rcases h.2 with ⟨rfl, _⟩ | ⟨g, c, cur, rfl, _, hg, _⟩
  · simp [Value.ownBlock] at e
  · simp only [Value.ownBlock, Option.some.injEq] at e
    exact ne_type hg h2 ht e

/-- The first writer writes. -/
theorem St.raw {w X X' : World} {A1 A2 R1 R2 M1 M2 : Nat} {s t : ByteArray} {u1 u2 u' : Value} {b1 b2 b' : List UInt8} {i1 i2 : Nat} (h : St w X A1 A2 R1 R2 M1 M2 s t u1 u2 b1 b2 i1 i2) (hA : A1 ≠ A2) (hAw : w.heap.size ≤ A1)
    (hw : WrAt X' A1 u' b') (hk : Kept (wset A1 u1) X X') (hm : RowMoved X u1 u') : St w X' A1 A2 R1 R2 M1 M2 s t u' u2 b' b2 i1 i2 := by
  have hown := h.w1.2
  have nS : ∀ (b : Nat) (d : Array Value) (t' : TypeId), X.heap[b]? = some (.cells d t' (0, 0)) → t' ≠ 68 → t' ≠ 5 → ¬ wset A1 u1 b := fun b d t' hb h1 h2 e => by
    rcases e with e | e
    · exact ne_type hb h.w1.1 h1 e
    · exact row_ne hown hb (fun e' => h2 e'.symm) e
  have hsz : w.heap.size ≤ X.heap.size := h.fr.size
  refine ⟨hw, h.w2.kept hk (fun e => ?_) (fun g hg e => ?_), h.r1.kept hk (nS _ _ _ h.r1.1 (by decide) (by decide)), h.r2.kept hk (nS _ _ _ h.r2.1 (by decide) (by decide)), hk.at h.m1 (nS _ _ _ h.m1 (by decide) (by decide)), hk.at h.m2 (nS _ _ _ h.m2 (by decide) (by decide)), ?_, h.g2, ?_, ?_⟩
  · rcases e with e | e
    · exact hA e.symm
    · exact row_ne hown h.w2.1 (by decide) e
  · rcases e with e | e
    · exact row_ne h.w2.2 h.w1.1 (by decide) (by rw [hg, e])
    · exact h.ap g e hg
  · intro g hg
    rcases hm with e | ⟨g', e, h'⟩
    · exact h.g1 g (e ▸ hg)
    · rw [e] at hg; simp at hg; omega
  · intro g hg hg2
    rcases hm with e | ⟨g', e, h'⟩
    · exact h.ap g (e ▸ hg) hg2
    · have := owns_lt h.w2.2 hg2
      rw [e] at hg; simp at hg; omega
  · exact h.fr.trans hk (fun k hk' e => by
      rcases e with e | e
      · omega
      · have := h.g1 k e; omega)

/-- The first reader read, and the document's first reader was set. -/
theorem St.read {w X X' : World} {A1 A2 R1 R2 M1 M2 : Nat} {s t : ByteArray} {u1 u2 : Value} {b1 b2 : List UInt8} {i1 i2 i' : Nat} (h : St w X A1 A2 R1 R2 M1 M2 s t u1 u2 b1 b2 i1 i2) (hR : R1 ≠ R2) (hM : M1 ≠ M2) (hRw : w.heap.size ≤ R1) (hMw : w.heap.size ≤ M1)
    (hr : RdAt X' R1 s i') (hk : Kept (only R1) X X') : St w ((X'.setCell ⟨M1, 0, none⟩ (.string s)).setCell ⟨M1, 1, none⟩ (.int .i64 i')) A1 A2 R1 R2 M1 M2 s t u1 u2 b1 b2 i' i2 := by
  have nA1 := ne_type h.w1.1 h.r1.1 (by decide)
  have nA2 := ne_type h.w2.1 h.r1.1 (by decide)
  have nu1 := row_ne h.w1.2 h.r1.1 (by decide)
  have nu2 := row_ne h.w2.2 h.r1.1 (by decide)
  have nM1 := ne_type h.m1 h.r1.1 (by decide)
  have nM2 := ne_type h.m2 h.r1.1 (by decide)
  have w1' := h.w1.kept hk nA1 (fun g hg e => nu1 (by have e' : g = R1 := e; rw [hg, e']))
  have w2' := h.w2.kept hk nA2 (fun g hg e => nu2 (by have e' : g = R1 := e; rw [hg, e']))
  have r2' := h.r2.kept hk (fun e => hR e.symm)
  have m1' := hk.at h.m1 nM1
  have m2' := hk.at h.m2 nM2
  have k2 : Kept (only M1) X' ((X'.setCell ⟨M1, 0, none⟩ (.string s)).setCell ⟨M1, 1, none⟩ (.int .i64 i')) := ((Kept.refl (only M1) X').setCell (p := ⟨M1, 0, none⟩) (fun _ => rfl) _).setCell (p := ⟨M1, 1, none⟩) (fun _ => rfl) _
  have pA1 := ne_type w1'.1 m1' (by decide)
  have pA2 := ne_type w2'.1 m1' (by decide)
  have pu1 := row_ne w1'.2 m1' (by decide)
  have pu2 := row_ne w2'.2 m1' (by decide)
  have pR1 := ne_type hr.1 m1' (by decide)
  have pR2 := ne_type r2'.1 m1' (by decide)
  refine ⟨w1'.kept k2 pA1 (fun g hg e => pu1 (by have e' : g = M1 := e; rw [hg, e'])), w2'.kept k2 pA2 (fun g hg e => pu2 (by have e' : g = M1 := e; rw [hg, e'])), hr.kept k2 pR1, r2'.kept k2 pR2, set2 m1', k2.at m2' (fun e => hM e.symm), h.g1, h.g2, h.ap, ?_⟩
  exact (h.fr.trans hk (fun k hk' e => by have e' : k = R1 := e; omega)).trans k2 (fun k hk' e => by have e' : k = M1 := e; omega)

end Go.Proofs.YtcdgphneljgooaaDoor.Two
