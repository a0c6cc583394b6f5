/-
  A middle handed in by value, out of its reading.
-/
import Derived.Test.YtbppahmcjifflaaDoorAce
import Derived.Test.YtbppahmcjifflaaDoorNof
import Derived.Lib.SmallJoins
namespace Go.Proofs.YtbppahmcjifflaaDoor
open Go.ChangeShapes Go.WideShapes Go.ChangeAt Go.RowKit Go.Lib Go.Maps Go.Joins

theorem six_list {α : Type} : ∀ {l : List α}, l.length = 6 → ∃ a b c d e f, l = [a, b, c, d, e, f]
  | [a, b, c, d, e, f], _ => ⟨a, b, c, d, e, f, rfl⟩
theorem six_array {α : Type} {cs : Array α} (h : cs.size = 6) : ∃ a b c d e f, cs = #[a, b, c, d, e, f] := by
  obtain ⟨l⟩ := cs
  obtain ⟨a, b, c, d, e, f, rfl⟩ := six_list (l := l) h
  exact ⟨a, b, c, d, e, f, rfl⟩
set_option maxRecDepth 100000 in
theorem mid_of {H : Type} {enc : TypeId × Value → H} {W : World} {r : Reach} {b0 : Nat} {v : Value} {d : DataW H} {p : List MemPlace} {ts : List TypeId} {ds : List (DataW H)} {j : Nat} (hv : Value.okWide Tryd.prog W r b0 36 v) (h : DataW.Trod enc Tryd.prog W 0 (fun _ => true) true 36 v d p)
    (hsz : (DataW.weightsEach Tryd.prog ts ds).all (· ≤ reachBytes) = true) (ht : ts[j]? = some 36) (hd : ds[j]? = some d) :
    ∃ m : Mid, MidV (fun b => b < W.heap.size) W v m := by
  obtain ⟨cs, rfl, hcs⟩ := okWide_struct Tryd.underlying36 hv
  obtain ⟨v0, v1, v2, v3, v4, v5, rfl⟩ := six_array (hcs.trans (by kernel_rfl))
  obtain ⟨fuel, hf⟩ := h
  obtain ⟨xs, n, _, hx, hl, hlen, hfs⟩ := DataW.trod_struct Tryd.underlying36 hf
  obtain ⟨y0, y1, y2, y3, y4, y5, rfl⟩ := six_list (l := xs) hlen
  simp only [Prod.mk.injEq, List.map_cons, List.map_nil] at hx
  obtain ⟨rfl, rfl⟩ := hx
  have hg := sized_field hsz ht hd Tryd.underlying36
  have c8 : Tryd.prog.cellsOf 23 = 1 := by kernel_rfl
  have ci : Tryd.prog.cellsOf 3 = 1 := by kernel_rfl
  have q0 : DataW.trod enc Tryd.prog W 0 (fun _ => true) true n 23 [v0] = some y0 := by simpa [Value.cells, c8] using hfs 0 _ rfl
  have q1 : DataW.trod enc Tryd.prog W 0 (fun _ => true) true n 23 [v1] = some y1 := by simpa [Value.cells, c8] using hfs 1 _ rfl
  have q2 : DataW.trod enc Tryd.prog W 0 (fun _ => true) true n 23 [v2] = some y2 := by simpa [Value.cells, c8] using hfs 2 _ rfl
  have q3 : DataW.trod enc Tryd.prog W 0 (fun _ => true) true n 3 [v3] = some y3 := by simpa [Value.cells, ci] using hfs 3 _ rfl
  have q4 : DataW.trod enc Tryd.prog W 0 (fun _ => true) true n 3 [v4] = some y4 := by simpa [Value.cells, ci] using hfs 4 _ rfl
  have q5 : DataW.trod enc Tryd.prog W 0 (fun _ => true) true n 3 [v5] = some y5 := by simpa [Value.cells, ci] using hfs 5 _ rfl
  obtain ⟨z0, hz0, _⟩ := row_of ty8 q0 (fun es sp e => by
    have := sized_slice hg (j := 0) (t := 23) (e := 30) rfl (by rw [e]; rfl) Tryd.underlying23
    rw [Tryd.b8] at this
    simp only [reachBytes] at this
    simp [kb]
    omega)
  obtain ⟨z1, hz1, _⟩ := row_of ty8 q1 (fun es sp e => by
    have := sized_slice hg (j := 1) (t := 23) (e := 30) rfl (by rw [e]; rfl) Tryd.underlying23
    rw [Tryd.b8] at this
    simp only [reachBytes] at this
    simp [kb]
    omega)
  obtain ⟨z2, hz2, _⟩ := row_of ty8 q2 (fun es sp e => by
    have := sized_slice hg (j := 2) (t := 23) (e := 30) rfl (by rw [e]; rfl) Tryd.underlying23
    rw [Tryd.b8] at this
    simp only [reachBytes] at this
    simp [kb]
    omega)
  obtain ⟨i3, e3, _, w3⟩ := DataW.trod_int Tryd.underlying3 q3
  obtain ⟨i4, e4, _, w4⟩ := DataW.trod_int Tryd.underlying3 q4
  obtain ⟨i5, e5, _, w5⟩ := DataW.trod_int Tryd.underlying3 q5
  simp only [List.cons.injEq, and_true] at e3 e4 e5
  exact ⟨⟨z0, z1, z2, i3, i4, i5⟩, v0, v1, v2, by rw [e3, e4, e5], hz0, hz1, hz2, i64_of w3, i64_of w4, i64_of w5⟩
end Go.Proofs.YtbppahmcjifflaaDoor
