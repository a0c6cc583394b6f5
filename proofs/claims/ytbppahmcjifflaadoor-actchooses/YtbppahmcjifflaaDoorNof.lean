/-
  Rows handed in, out of their reading; a row's copy.
-/
import Derived.Test.YtbppahmcjifflaaDoorGvs
namespace Go.Proofs.YtbppahmcjifflaaDoor
open Go.ChangeShapes Go.WideShapes Go.ChangeAt Go.RowKit Go.Lib Go.Maps
theorem Tryd.b64 : Tryd.prog.bytesOf 2 = 8 := by kernel_rfl
theorem Tryd.b8 : Tryd.prog.bytesOf 30 = 1 := by kernel_rfl
/-- A row's copy, behind an empty one. -/
theorem copy_of {k : IntKind} {e s : TypeId} (ht : Ty k e s) {w : World} {p : Nat → Prop} {v : Value} {zs : List Int} (h : Rk k p w v zs) :
    ∃ t W, (Builtin.append_ #[s, s] s #[.slice (some ⟨w.heap.size, 0, none⟩) 0 0, v]).run Tryd.prog (w.alloc (.cells #[] e)) = .ok t W ∧ Fresh w W ∧ Rk k (fun b => w.heap.size ≤ b ∧ b < W.heap.size) W t zs := by
  have hF : Fresh w (w.alloc (.cells #[] e)) := (Kept.refl _ w).alloc _
  obtain ⟨t1, W1, h1, h2, h3⟩ := twin ht s (w.alloc (.cells #[] e)) w.heap.size _ [] (own_empty w _ (Nat.le_refl _) _) hF.size _ zs _ (h.fresh hF) (by have := h.len; simpa using this)
  simp only [List.length_nil, Nat.zero_add, List.nil_append] at h2
  exact ⟨t1, W1, h1, hF.grown h3 (fun k hk e => by simp [Value.ownBlock] at e; omega), rk_of_own h2 h.len h.all⟩
set_option maxRecDepth 100000 in
theorem arg64 {H : Type} {enc : TypeId × Value → H} {W : World} {r : Reach} {b0 : Nat} {v : Value} {d : DataW H} {p : List MemPlace} {ts : List TypeId} {ds : List (DataW H)} {j : Nat} (hv : Value.okWide Tryd.prog W r b0 38 v) (h : DataW.Trod enc Tryd.prog W 0 (fun _ => true) true 38 v d p)
    (hsz : (DataW.weightsEach Tryd.prog ts ds).all (· ≤ reachBytes) = true) (ht : ts[j]? = some 38) (hd : ds[j]? = some d) : ∃ zs : List Int, Rk .i64 (fun b => b < W.heap.size) W v zs := by
  obtain ⟨ao, ln, cap, rfl⟩ := okWide_slice Tryd.underlying38 hv
  obtain ⟨f0, hf0⟩ := h
  obtain ⟨A, hA1, _⟩ := row_of ty64 (x := (d, _)) hf0 (fun es sp e => by
    have e' : d = .slice es sp := e
    subst e'
    have := sized_slice hsz (j := j) (t := 38) (e := 2) ht hd Tryd.underlying38
    rw [Tryd.b64] at this
    simp only [reachBytes] at this
    simp [kb]
    omega)
  exact ⟨A, hA1⟩
set_option maxRecDepth 100000 in
theorem arg8 {H : Type} {enc : TypeId × Value → H} {W : World} {r : Reach} {b0 : Nat} {v : Value} {d : DataW H} {p : List MemPlace} {ts : List TypeId} {ds : List (DataW H)} {j : Nat} (hv : Value.okWide Tryd.prog W r b0 23 v) (h : DataW.Trod enc Tryd.prog W 0 (fun _ => true) true 23 v d p)
    (hsz : (DataW.weightsEach Tryd.prog ts ds).all (· ≤ reachBytes) = true) (ht : ts[j]? = some 23) (hd : ds[j]? = some d) : ∃ zs : List Int, Rk .i8 (fun b => b < W.heap.size) W v zs := by
  obtain ⟨ao, ln, cap, rfl⟩ := okWide_slice Tryd.underlying23 hv
  obtain ⟨f0, hf0⟩ := h
  obtain ⟨A, hA1, _⟩ := row_of ty8 (x := (d, _)) hf0 (fun es sp e => by
    have e' : d = .slice es sp := e
    subst e'
    have := sized_slice hsz (j := j) (t := 23) (e := 30) ht hd Tryd.underlying23
    rw [Tryd.b8] at this
    simp only [reachBytes] at this
    simp [kb]
    omega)
  exact ⟨A, hA1⟩
end Go.Proofs.YtbppahmcjifflaaDoor
