/-
  A queue that the call has made; two elements come out in their order.
-/
import Derived.Test.YtonpdnpfekmapaaZux
namespace Go.Proofs.Ytonpdnpfekmapaa.SI
open Go.RowKit Go.Lib Go.Maps

/-- A queue that lies in memory made since w. -/
structure St (w wr : World) (F : Nat → Prop) (qb N : Nat) (L : List El) (tk ar : Nat) : Prop where
  q : QAt wr F qb N L tk ar
  new : ∀ k, F k → w.heap.size ≤ k
  fr : Fresh w wr
section
variable {w wr w' : World} {F : Nat → Prop} {qb N : Nat} {L L' : List El} {tk ar tk' ar' : Nat}
theorem St.fresh (h : St w wr F qb N L tk ar) (hF : Fresh wr w') : St w w' F qb N L tk ar := ⟨h.q.fresh hF, h.new, h.fr.trans hF (fun _ _ e => e)⟩
theorem St.drewN (h : St w wr F qb N L tk ar) (n : Nat) : St w (wr.drewN n) F qb N L tk ar := h.fresh ((Kept.refl _ wr).drewN n)
theorem St.turn {F' : Nat → Prop} (h : St w wr F qb N L tk ar) (h1 : QAt w' F' qb N L' tk' ar') (h2 : Kept F wr w') (h3 : ∀ k, F' k → F k ∨ wr.heap.size ≤ k) : St w w' F' qb N L' tk' ar' :=
  ⟨h1, fun k hk => by
    rcases h3 k hk with e | e
    · exact h.new k e
    · have := h.fr.size; omega, h.fr.trans h2 (fun i hi e => by have := h.new i e; omega)⟩
theorem St.now (h : St w wr F qb N L tk ar) (hn : QNow wr F qb N L' tk' ar' w') : ∃ F', St w w' F' qb N L' tk' ar' := by
  obtain ⟨F', a1, a2, a3⟩ := hn
  exact ⟨F', h.turn a1 a2 a3⟩
theorem St.put {k : KT} {v : Int} (h : St w wr F qb N L tk ar) (hp : PutQ wr F qb N L tk ar k v w') : ∃ e A B F', e.k = k ∧ e.v = v ∧ e.t = tk ∧ e.a = ar + 1 ∧ L = A ++ B ∧ Sp A B e ∧ St w w' F' qb N (A ++ e :: B) (tk + 1) (ar + 1) := by
  obtain ⟨e, A, B, F', a1, a2, a3, a4, a5, a6, a7, a8, a9⟩ := hp
  exact ⟨e, A, B, F', a1, a2, a3, a4, a5, a6, h.turn a7 a8 a9⟩
end

end Go.Proofs.Ytonpdnpfekmapaa.SI
