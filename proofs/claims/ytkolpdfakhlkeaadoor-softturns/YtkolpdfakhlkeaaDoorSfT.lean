/-
  Lists turned round: sums, means; a row turned round, in memory of its own.
-/
import Derived.Test.YtkolpdfakhlkeaaDoorSfN
import Derived.Test.YtkolpdfakhlkeaaDoorCut8
import Derived.Test.YtkolpdfakhlkeaaDoorGvl
namespace Go.Proofs.YtkolpdfakhlkeaaDoor
open Go.RowKit Go.Lib Go.Maps

/-- The sum. -/
def sm : List Int → Int
  | [] => 0
  | z :: r => z + sm r
theorem sm_append : ∀ a b : List Int, sm (a ++ b) = sm a + sm b
  | [], b => by simp [sm]
  | x :: r, b => by
    have := sm_append r b
    simp only [List.cons_append, sm, this]
    omega
theorem tot_take (zs : List Int) : ∀ k, k ≤ zs.length → tot zs k = sm (zs.take k)
  | 0, _ => by simp [tot, sm]
  | k + 1, h => by
    have e : tot zs (k + 1) = tot zs k + zs.getD k 0 := rfl
    rw [e, tot_take zs k (by omega), take_snocD (by omega), sm_append]
    simp [sm]
theorem tot_sm (zs : List Int) : tot zs zs.length = sm zs := by rw [tot_take zs _ (Nat.le_refl _), List.take_length]
theorem dt_take (w v : List Int) (h : w.length = v.length) : ∀ k, k ≤ w.length → dt w v k = dotN (w.take k) (v.take k)
  | 0, _ => by simp [dt, dotN]
  | k + 1, hk => by
    have e : dt w v (k + 1) = dt w v k + w.getD k 0 * v.getD k 0 := rfl
    rw [e, dt_take w v h k (by omega), dotN_take (by omega) (by omega)]
theorem dt_dot (w v : List Int) (h : w.length = v.length) : dt w v w.length = dotN w v := by
  rw [dt_take w v h _ (Nat.le_refl _), List.take_length, h, List.take_length]
/-- A list turned round by k. -/
def rot (zs : List Int) (k : Nat) : List Int := zs.drop k ++ zs.take k
theorem rot_len (zs : List Int) (k : Nat) : (rot zs k).length = zs.length := by simp [rot]; omega
theorem sm_rot (zs : List Int) (k : Nat) : sm (rot zs k) = sm zs := by
  have h := sm_append (zs.take k) (zs.drop k)
  rw [List.take_append_drop] at h
  rw [rot, sm_append, h]
  omega
theorem dot_rot {w v : List Int} (h : w.length = v.length) (k : Nat) : dotN (rot w k) (rot v k) = dotN w v := by
  have h1 := dotN_append (w.take k) (v.take k) (w.drop k) (v.drop k) (by simp; omega)
  rw [List.take_append_drop, List.take_append_drop] at h1
  rw [rot, rot, dotN_append _ _ _ _ (by simp; omega), h1]
  omega
theorem ok_rot (zs : List Int) (k : Nat) : okW (rot zs k) = okW zs := by
  have h : okW zs = (okW (zs.take k) && okW (zs.drop k)) := by
    have : okW (zs.take k ++ zs.drop k) = (okW (zs.take k) && okW (zs.drop k)) := by simp only [okW, List.all_append]
    rwa [List.take_append_drop] at this
  rw [h]
  simp only [okW, rot, List.all_append]
  exact Bool.and_comm _ _
theorem me_rot {w v : List Int} (h : w.length = v.length) (k : Nat) : meE (rot w k) (rot v k).length = meE w v.length ∧ meV (rot w k) (rot v k) = meV w v := by
  have e1 : meE (rot w k) (rot v k).length = meE w v.length := by
    unfold meE
    rw [rot_len, rot_len, ok_rot, ← rot_len w k, tot_sm, sm_rot, ← tot_sm, rot_len]
  refine ⟨e1, ?_⟩
  unfold meV
  rw [e1]
  split
  · unfold meF
    rw [dt_dot _ _ (by rw [rot_len, rot_len]; exact h), tot_sm, sm_rot, dot_rot h, ← tot_sm, ← dt_dot _ _ h]
  · rfl
theorem rot_mem {zs : List Int} {k : Nat} {z : Int} (h : z ∈ rot zs k) : z ∈ zs := by
  rcases List.mem_append.1 h with e | e
  · exact List.mem_of_mem_drop e
  · exact List.mem_of_mem_take e

/-- x[k:], x[:k] of a row that reaches further. -/
theorem run_from {k : IntKind} {e s : TypeId} (ht : Ty k e s) (hz : ∀ W, (sizeOf e).run Tryd.prog W = .ok 1 W) (b off n cap i : Nat) (hi : i < n) (hc : n ≤ cap) (W : World) : (Instr.slice s (.slice (some ⟨b, off, none⟩) n cap) (some (.int .i64 (i : Int))) none none).run Tryd.prog W = .ok (.slice (some ⟨b, off + i, none⟩) (n - i) (cap - i)) W := by
  have hu : Tryd.prog.underlying s = some (.slice (Tryd.prog.elem s)) := by simp [Program.elem, ht.u]
  have he : Tryd.prog.elem s = e := by simp [Program.elem, ht.u]
  rw [run_slice_l (P := Tryd.prog) W s _ n cap hu .i64 (i : Int) (by omega) (by omega), he, hz]
  have e2 : ¬ cap = i := by omega
  simp [sliced, e2, Result.andThen, Addr.add_lit]
theorem run_upTo {k : IntKind} {e s : TypeId} (ht : Ty k e s) (hz : ∀ W, (sizeOf e).run Tryd.prog W = .ok 1 W) (b off n cap h : Nat) (hc : h ≤ cap) (W : World) : (Instr.slice s (.slice (some ⟨b, off, none⟩) n cap) none (some (.int .i64 (h : Int))) none).run Tryd.prog W = .ok (.slice (some ⟨b, off, none⟩) h cap) W := by
  have hu : Tryd.prog.underlying s = some (.slice (Tryd.prog.elem s)) := by simp [Program.elem, ht.u]
  have he : Tryd.prog.elem s = e := by simp [Program.elem, ht.u]
  rw [run_slice_h (P := Tryd.prog) W s _ n cap hu .i64 (h : Int) (by omega) (by omega), he, hz]
  simp [sliced, Result.andThen, Addr.add_lit]
end Go.Proofs.YtkolpdfakhlkeaaDoor
