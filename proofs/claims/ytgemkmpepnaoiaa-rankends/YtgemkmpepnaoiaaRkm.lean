/-
  A map in which the places that were seen are counted.
-/
import Derived.Test.YtgemkmpepnaoiaaRkl
import Derived.Maps.OwnSet
import Derived.Maps.OwnOps
namespace Go.Proofs.Ytgemkmpepnaoiaa
open Go.ChangeShapes Go.WideShapes Go.ChangeAt Go.RowKit Go.Maps

theorem mlaw : Keyed Try.prog 3 := int_keyed Try.underlying3
theorem zeroI (w : World) : (zeroValue 3).run Try.prog w = .ok (.int .i64 0) w := by kernel_rfl
theorem wf64 {z : Int} (h1 : -9223372036854775808 ≤ z) (h2 : z ≤ 9223372036854775807) : (Lit.int .i64 z).wf = true := by
  simp [Lit.wf, IntKind.min, IntKind.max, IntKind.signed, IntKind.bits]
  omega
/-- In block M lies a map whose keys are just these, so many of them. -/
def SeenAt (w : World) (M : Nat) (ps : List Int) : Prop := ∃ D : DataW Unit, w.ownsMap Try.prog 3 (plainElem Try.prog 3) M ps.length D ∧ (∀ z : Int, z ∉ ps → Maps.has D (.int .i64 z) = false ∧ D.atKey (.int .i64 z) (.lit (.int .i64 0)) = .lit (.int .i64 0)) ∧ Maps.size D = ps.length
theorem SeenAt.made (w : World) : SeenAt (w.alloc (.map #[] 0)) w.heap.size [] :=
  ⟨.map [], World.ownsMap_made _ _ _ _, fun _ _ => ⟨rfl, rfl⟩, rfl⟩
theorem SeenAt.kept {S : Nat → Prop} {w w' : World} {M : Nat} {ps : List Int} (h : SeenAt w M ps) (hk : Kept S w w') (hS : ¬ S M) : SeenAt w' M ps := by
  obtain ⟨D, ⟨es, clock, hb, hh⟩, ht⟩ := h
  exact ⟨D, ⟨es, clock, hk.at hb hS, hh⟩, ht⟩
theorem SeenAt.lt {w : World} {M : Nat} {ps : List Int} (h : SeenAt w M ps) : M < w.heap.size := by
  obtain ⟨D, ⟨es, clock, hb, _⟩, _⟩ := h
  exact lt_of_heap hb
theorem SeenAt.look {w : World} {M : Nat} {ps : List Int} (h : SeenAt w M ps) {z : Int} (hz : I64 z) (hn : z ∉ ps) :
    (Instr.lookup 30 (.map (some M)) (.int .i64 z) false).run Try.prog w = .ok (.int .i64 0) w := by
  obtain ⟨D, ho, ht, _⟩ := h
  obtain ⟨c, hr, hc, _⟩ := ho.lookup_int mlaw Try.underlying30 Try.underlying3 (zeroI w) (keyOf_int_mk Try.underlying3 (wf64 hz.1 hz.2))
  rw [(ht z hn).2] at hc
  simp only [DataW.lit.injEq, Lit.int.injEq, true_and] at hc
  rw [hr, ← hc]
theorem SeenAt.len {w : World} {M : Nat} {ps : List Int} (h : SeenAt w M ps) (ty : TypeId) : (Builtin.len_ #[30] ty #[.map (some M)]).run Try.prog w = .ok (.int .i64 (ps.length : Int)) w := by
  obtain ⟨D, ho, _, hs⟩ := h
  rw [ho.len Try.underlying30 ty, hs]
theorem SeenAt.store {w : World} {M : Nat} {ps : List Int} (h : SeenAt w M ps) (hl : ps.length < maxLen) {z : Int} (hz : I64 z) (hn : z ∉ ps) :
    ∃ w', (Instr.mapUpdate 30 (.map (some M)) (.int .i64 z) (.int .i64 1)).run Try.prog w = .ok () w' ∧ SeenAt w' M (ps ++ [z]) ∧ w.grownBy w' (some M) := by
  obtain ⟨D, ho, ht, hs⟩ := h
  obtain ⟨w', hr, ho', hg⟩ := ho.update mlaw Try.underlying30 hl (keyOf_int_mk Try.underlying3 (wf64 hz.1 hz.2)) (plainElem_int Try.underlying3 (wf64 (z := 1) (by omega) (by omega)))
  refine ⟨w', hr, ⟨_, by rw [List.length_append]; exact ho', fun y hy => ?_, ?_⟩, hg⟩
  · have hne : ¬ y = z := fun e => hy (by rw [e]; simp)
    have hy' : y ∉ ps := fun e => hy (List.mem_append_left _ e)
    rw [has_put_other (fun h => hne (by simpa using h)), atKey_put_other (fun h => hne (by simpa using h))]
    exact ht y hy'
  · rw [size_put (ho.tidy mlaw), (ht z hn).1, hs, List.length_append]
    simp
end Go.Proofs.Ytgemkmpepnaoiaa
