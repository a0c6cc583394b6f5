/-
  Steps of a region that draws its order: an append whose run is known; memory for VecTimes.
-/
import Derived.Test.YtjffiojjjmecgaaVcl
import Derived.Test.YtjffiojjjmecgaaVjb
import Derived.Deep.DeepMust
import Derived.Deep.DeepCutAuto
namespace Go.Proofs.Ytjffiojjjmecgaa
open Go.RowKit Go.Lib Go.Maps

theorem step_append_run {P : Program} {ops : Array Oper} {o : Oper} {a : Act} {w : World} {K : Act → World → Prop} {Q : Exit → Act → World → Prop} {E : Prop} (hgd : o.guard = none) (s x : Operand) (t tn : TypeId)
    (ho : o.op = .call { callee := .builtin .append, args := #[s, x], argTypes := #[t, tn] }) (vs vx : Value) (hs : a.eval s = vs) (hx : a.eval x = vx)
    (v' : Value) (w' : World) (hr : (Builtin.append_ #[t, tn] o.type #[vs, vx]).run P w = .ok v' w') (h : K (a.put o.dst v') w') :
    if Region.wanted o (yielded ops a.tmps) = true then Oper.wp P o a w K Q else E := by
  have hw : Region.wanted o (yielded ops a.tmps) = true := by simp [Region.wanted, hgd]
  rw [if_pos hw]
  exact wp_append_run w s x t tn ho vs vx hs hx v' w' hr h

/-- A row copied to a block made ahead, whatever was made in between. -/
theorem twin_late (w : World) (wv : Value) (zs : List Int) (hw : Rk .i8 (fun b => b < w.heap.size) w wv zs) (X Z : World) (hX : Fresh w X) (hZ : Fresh (X.alloc (.cells #[] 49)) Z) :
    ∃ ta tc Y, (Builtin.append_ #[22, 22] 22 #[.slice (some ⟨X.heap.size, 0, none⟩) 0 0, wv]).run Try.prog Z = .ok (.slice ta zs.length tc) Y ∧ Fresh w Y ∧ Kept (fun b => b = X.heap.size) Z Y ∧ Rk .i8 (fun b => X.heap.size ≤ b ∧ b < Y.heap.size) Y (.slice ta zs.length tc) zs := by
  have hXZ : Fresh X Z := ((Kept.refl _ X).alloc _).trans hZ (fun _ _ e => e)
  have hwZ : Fresh w Z := hX.trans hXZ (fun _ _ e => e)
  have hO : Z.ownsRow X.heap.size 49 1 (.slice (some ⟨X.heap.size, 0, none⟩) 0 0) 0 [] := owns_kept (own_empty X _ (Nat.le_refl _) _) hZ (fun _ _ e => e)
  obtain ⟨t1, Y, h1, h2, h3⟩ := twin ty8 22 Z X.heap.size _ [] hO hXZ.size wv zs _ (hw.fresh hwZ) (by have := hw.len; simpa using this)
  simp only [List.length_nil, Nat.zero_add, List.nil_append] at h2
  have hR := rk_of_own h2 hw.len hw.all
  obtain ⟨ta, tc, rfl, _⟩ := hR.shape
  have hK : Kept (fun b => b = X.heap.size) Z Y := (Kept.refl _ Z).grown h3 (fun k hk e => by simp [Value.ownBlock] at e; exact e.symm)
  have := hX.size
  exact ⟨ta, tc, Y, h1, hwZ.trans hK (fun i hi e => by omega), hK, hR⟩
end Go.Proofs.Ytjffiojjjmecgaa
