/-
  An append behind an empty row, in a drawn region: its answer by an existential.
-/
import Derived.Test.YtkolpdfakhlkeaaDoorNof
import Derived.ArgAppend
import Derived.Deep.Upon
import Derived.Deep.RegionHeld3
import Derived.Deep.DeepCutAuto
import Derived.Lib.SmallJoins
namespace Go.Proofs.YtkolpdfakhlkeaaDoor
open Go.ChangeShapes Go.WideShapes Go.ChangeAt Go.RowKit Go.Lib Go.Maps Go.Joins

/-- append([]T{}, row...): whatever the empty one's address. -/
theorem twin0 {k : IntKind} {e s : TypeId} (ht : Ty k e s) (ty : TypeId) (Z : World) (a0 : Addr) (rv : Value) (zs : List Int) (p : Nat → Prop) (hr : Rk k p Z rv zs) :
    ∃ v' Y, (Builtin.append_ #[s, s] ty #[.slice (some a0) 0 0, rv]).run Tryd.prog Z = .ok v' Y ∧ ∃ ta tc, v' = .slice ta zs.length tc ∧ Fresh Z Y ∧ Rk k (fun b => Z.heap.size ≤ b ∧ b < Y.heap.size) Y v' zs := by
  obtain ⟨i0, hi, hz0, hz1, hz2⟩ := info_parts ht.info
  have hk := kb_pos k
  have hlen := hr.len
  have hmany := hr.many
  have hall := hr.all
  obtain ⟨ao, cap, rfl, _, hcell, _, hn, _⟩ := hr
  rcases zs with _ | ⟨z, r⟩
  · have hs : Src Tryd.prog i0.size s (.slice ao 0 cap) 0 [] Z := by
      cases ao with
      | none => exact Src.ofNil Z ht.u cap
      | some a => exact Src.ofSlice Z ht.u a 0 cap [] (by simp) (fun j u hj => by simp at hj) (fun u hu => by simp at hu)
    exact ⟨_, Z, run_append_nothing Z s s ty e i0 ht.u hi (some a0) 0 0 (Nat.le_refl _) _ hs, some a0, 0, rfl, Kept.refl _ _, some a0, 0, rfl, by simp, fun h0 => absurd rfl h0, by simp, fun e => (by cases e), by simp⟩
  · obtain ⟨b, off, rfl, _, hb, hc⟩ := hcell (by simp)
    obtain ⟨v', w', h1, h2, h3⟩ := run_append_arg_grows (P := Tryd.prog) Z s ty e i0 (.int k 0) 1 (kb k) ht.u hi hz0 hz1 hz2 rfl (by omega) a0 0 0 [] (by simp) (fun j u hj => by simp at hj) ⟨b, off, none⟩ (z :: r).length cap ((z :: r).map (Value.int k)) (by simp)
      (fun j u hj => by
        have hj' : j < (z :: r).length := by have := (List.getElem?_eq_some_iff.1 hj).1; simpa using this
        rw [List.getElem?_map, List.getElem?_eq_getElem hj'] at hj
        simp only [Option.map_some, Option.some.injEq] at hj
        have := hc j hj'
        rw [List.getD_eq_getElem?_getD, List.getElem?_eq_getElem hj'] at this
        rw [← hj, Addr.add_lit]
        exact this) (by simp) (by unfold maxLen; omega) (by rw [Nat.zero_add]; omega)
    rw [Nat.zero_add, List.nil_append] at h2
    have hR := rk_of_own h2 hlen hall
    obtain ⟨ta, tc, rfl, _⟩ := hR.shape
    exact ⟨_, w', h1, ta, tc, rfl, (Kept.refl _ Z).grown h3 (fun q _ e => by cases e), hR⟩
theorem step_append_run {P : Program} {ops : Array Oper} {o : Oper} {a : Act} {w : World} {K : Act → World → Prop} {Q : Exit → Act → World → Prop} {E : Prop} (hgd : o.guard = none) (s x : Operand) (t tn : TypeId)
    (ho : o.op = .call { callee := .builtin .append, args := #[s, x], argTypes := #[t, tn] }) (vs vx : Value) (hs : a.eval s = vs) (hx : a.eval x = vx)
    (v' : Value) (w' : World) (hr : (Builtin.append_ #[t, tn] o.type #[vs, vx]).run P w = .ok v' w') (h : K (a.put o.dst v') w') :
    if Region.wanted o (yielded ops a.tmps) = true then Oper.wp P o a w K Q else E := by
  have hw : Region.wanted o (yielded ops a.tmps) = true := by simp [Region.wanted, hgd]
  rw [if_pos hw]
  exact wp_append_run w s x t tn ho vs vx hs hx v' w' hr h
/-- An append in a region, its answer told by what holds of it. -/
theorem step_twin {P : Program} {ops : Array Oper} {o : Oper} {a : Act} {w : World} {K : Act → World → Prop} {Q : Exit → Act → World → Prop} {E : Prop} (hgd : o.guard = none) (s x : Operand) (t tn : TypeId)
    (ho : o.op = .call { callee := .builtin .append, args := #[s, x], argTypes := #[t, tn] }) (vs vx : Value) (hs : a.eval s = vs) (hx : a.eval x = vx)
    (R : Value → World → Prop) (hr : ∃ v' w', (Builtin.append_ #[t, tn] o.type #[vs, vx]).run P w = .ok v' w' ∧ R v' w') (h : ∀ v' w', R v' w' → K (a.put o.dst v') w') :
    if Region.wanted o (yielded ops a.tmps) = true then Oper.wp P o a w K Q else E := by
  obtain ⟨v', w', h1, h2⟩ := hr
  exact step_append_run hgd s x t tn ho vs vx hs hx v' w' h1 (h v' w' h2)
end Go.Proofs.YtkolpdfakhlkeaaDoor
