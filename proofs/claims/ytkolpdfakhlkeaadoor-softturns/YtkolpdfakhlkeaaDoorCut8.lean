/-
  Parts of rows; rows copied into memory of their own.
-/
import Derived.Test.YtkolpdfakhlkeaaDoorCutR
import Derived.ArgAppend
namespace Go.Proofs.YtkolpdfakhlkeaaDoor
open Go.RowKit Go.Lib Go.Maps

/-- A row's beginning. -/
theorem Rk.pre {k : IntKind} {p : Nat → Prop} {w : World} {b off n cap : Nat} {zs : List Int} (h : Rk k p w (.slice (some ⟨b, off, none⟩) n cap) zs) (m : Nat) (hm : m ≤ n) : Rk k p w (.slice (some ⟨b, off, none⟩) m cap) (zs.take m) := by
  have := h.cut 0 m (by omega)
  rwa [Nat.add_zero, Nat.sub_zero, List.drop_zero] at this
/-- append([]T{}, row...) of a row that has something: in memory of its own. -/
theorem twin1 {k : IntKind} {e s : TypeId} (ht : Ty k e s) (ty : TypeId) (Z : World) (a0 : Addr) (rv : Value) (zs : List Int) (p : Nat → Prop) (hr : Rk k p Z rv zs) (hpos : zs ≠ []) :
    ∃ v' Y, (Builtin.append_ #[s, s] ty #[.slice (some a0) 0 0, rv]).run Tryd.prog Z = .ok v' Y ∧ Y.ownsRow Z.heap.size e 1 v' zs.length (zs.map (Value.int k)) ∧ Fresh Z Y := by
  obtain ⟨i0, hi, hz0, hz1, hz2⟩ := info_parts ht.info
  have hk := kb_pos k
  have hlen := hr.len
  have hmany := hr.many
  obtain ⟨ao, cap, rfl, _, hcell, _, hn, _⟩ := hr
  obtain ⟨b, off, rfl, _, hb, hc⟩ := hcell hpos
  have hpl : 0 < zs.length := List.length_pos_iff.2 hpos
  obtain ⟨v', w', h1, h2, h3⟩ := run_append_arg_grows (P := Tryd.prog) Z s ty e i0 (.int k 0) 1 (kb k) ht.u hi hz0 hz1 hz2 rfl (by omega) a0 0 0 [] (by simp) (fun j u hj => by simp at hj) ⟨b, off, none⟩ zs.length cap (zs.map (Value.int k)) (by simp)
    (fun j u hj => by
      have hj' : j < zs.length := by have := (List.getElem?_eq_some_iff.1 hj).1; simpa using this
      rw [List.getElem?_map, List.getElem?_eq_getElem hj'] at hj
      simp only [Option.map_some, Option.some.injEq] at hj
      have := hc j hj'
      rw [List.getD_eq_getElem?_getD, List.getElem?_eq_getElem hj'] at this
      rw [← hj, Addr.add_lit]
      exact this) (by omega) (by unfold maxLen; omega) (by rw [Nat.zero_add]; omega)
  rw [Nat.zero_add, List.nil_append] at h2
  exact ⟨_, w', h1, h2, (Kept.refl _ Z).grown h3 (fun q _ e => by cases e)⟩
end Go.Proofs.YtkolpdfakhlkeaaDoor
