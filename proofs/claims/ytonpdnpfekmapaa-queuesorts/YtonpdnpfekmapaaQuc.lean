/-
  Rows, and what a store of several cells makes of them.
-/
import Derived.Test.YtonpdnpfekmapaaQub
import Derived.Laws.IdiomCopy
import Derived.Lib.BufferMore
namespace Go.Proofs.Ytonpdnpfekmapaa
open Go.RowKit Go.Lib

/-- Rows of one cell each, their blocks by heart. -/
theorem heap_setCells {b : Nat} {T : TypeId} : ∀ (vs : List Value) (o : Nat) (w : World) (cs : List Value), w.heap[b]? = some (.cells cs.toArray T (0, 0)) → o + vs.length ≤ cs.length →
    (w.setCells b o vs).heap[b]? = some (.cells (cs.take o ++ vs ++ cs.drop (o + vs.length)).toArray T (0, 0))
  | [], o, w, cs, h, _ => by simpa [World.setCells] using h
  | v :: r, o, w, cs, h, hl => by
    rw [List.length_cons] at hl
    have h1 := Lib.heap_setCell_same h v (i := o)
    rw [List.setIfInBounds_toArray] at h1
    have h2 := heap_setCells r (o + 1) _ _ h1 (by rw [List.length_set]; omega)
    rw [World.setCells, h2]
    congr 3
    rw [List.set_eq_take_append_cons_drop, if_pos (by omega), List.length_cons]
    have e1 : (List.take o cs ++ v :: List.drop (o + 1) cs).take (o + 1) = cs.take o ++ [v] := by
      rw [List.take_append, List.length_take, Nat.min_eq_left (by omega), List.take_of_length_le (by rw [List.length_take]; omega), show o + 1 - o = 1 by omega]
      rfl
    have e2 : (List.take o cs ++ v :: List.drop (o + 1) cs).drop (o + 1 + r.length) = cs.drop (o + (r.length + 1)) := by
      rw [List.drop_append, List.length_take, Nat.min_eq_left (by omega), List.drop_of_length_le (by rw [List.length_take]; omega), show o + 1 + r.length - o = r.length + 1 by omega, List.drop_succ_cons, List.drop_drop, List.nil_append]
      congr 1
      omega
    rw [e1, e2]
    simp
theorem kept_setCells (b : Nat) : ∀ (vs : List Value) (o : Nat) (w : World), Kept (fun k => k = b) w (w.setCells b o vs)
  | [], _, w => Kept.refl _ w
  | v :: r, o, w => ((Kept.refl (fun k => k = b) w).setCell (p := ⟨b, o, none⟩) (fun _ => rfl) v).trans (kept_setCells b r (o + 1) _) (fun _ _ e => e)
/-- The block of a row. -/
abbrev ob (v : Value) : Nat → Prop := fun k => v.ownBlock = some k
end Go.Proofs.Ytonpdnpfekmapaa
