/-
  Masks handed in; a Case by value.
-/
import Derived.Test.YtohoppnpbgplnabDoorSfo
import Derived.Test.YtohoppnpbgplnabDoorNof
import Derived.Deep.Grids
namespace Go.Proofs.YtohoppnpbgplnabDoor
open Go.ChangeShapes Go.WideShapes Go.ChangeAt Go.RowKit Go.Lib Go.Maps Go.Joins

theorem room64 {L : List Int} (h : L.length ≤ 512) : L.length * kb .i64 ≤ 140737488351232 := by simp [kb]; omega
theorem getD_rangeB (B : Nat → Bool) {n i : Nat} (h : i < n) : ((List.range n).map B).getD i false = B i := by
  rw [List.getD_eq_getElem?_getD]; simp [h]
theorem bools_of {H : Type} {enc : TypeId × Value → H} {W : World} {fuel : Nat} {v : Value} {x : DataW H × List MemPlace} (h : DataW.trod enc Tryd.prog W 0 (fun _ => true) true fuel 40 [v] = some x)
    (hsz : ∀ es sp, x.1 = .slice es sp → es.length ≤ 140737488351232) : ∃ l : List Bool, Rb (fun b => b < W.heap.size) W v l := by
  rcases Go.Deep.open_bools Tryd.underlying40 Tryd.underlying4 (by kernel_rfl) h with ⟨hcs, _⟩ | ⟨a, len, cap, B, hcs, _, hl, hm, hx, hcell⟩
  · exact ⟨[], none, 0, by simpa using hcs, by simp, fun h0 => by simp at h0⟩
  · have hl1 := hsz ((List.range len).map fun i => .lit (.bool (B i))) ((List.range (cap - len)).map fun j => .lit (.bool (B (len + j)))) (by rw [hx]; rfl)
    have hv : v = .slice (some a) len cap := by simpa using hcs
    refine ⟨(List.range len).map B, some a, cap, by simpa using hv, by simpa using hl1, fun h0 => ?_⟩
    have hpos : 0 < len := by simpa using h0
    obtain ⟨b, off, spot⟩ := a
    have hc0 := hcell 0 (by omega)
    have hspot : spot = none := by simpa [Addr.add] using World.cell?_spot hc0
    subst hspot
    have hb0 := World.block_lt_of_cell? W _ hc0
    refine ⟨b, off, rfl, by simpa [Addr.add] using hb0, by simpa [Addr.add] using hb0, fun i hi => ?_⟩
    have hi' : i < len := by simpa using hi
    have := hcell i (by omega)
    rw [getD_rangeB B hi', ← this, Addr.add_lit]
theorem case_of {H : Type} {enc : TypeId × Value → H} {W : World} {r : Reach} {b0 : Nat} {v : Value} {d : DataW H} {p : List MemPlace} {ts : List TypeId} {ds : List (DataW H)} {j : Nat} (hv : Value.okWide Tryd.prog W r b0 42 v) (h : DataW.Trod enc Tryd.prog W 0 (fun _ => true) true 42 v d p)
    (hsz : (DataW.weightsEach Tryd.prog ts ds).all (· ≤ reachBytes) = true) (ht : ts[j]? = some 42) (hd : ds[j]? = some d) :
    ∃ (mv : Value) (s pt : Int) (mk : List Bool), v = .agg #[mv, zV s, zV pt] ∧ I64 s ∧ I64 pt ∧ Rb (fun b => b < W.heap.size) W mv mk := by
  obtain ⟨v0, v1, v2, y0, y1, y2, n, rfl, rfl, rfl, q0, q1, q2⟩ := open_agg3 Tryd.underlying42 (by kernel_rfl) (by kernel_rfl) hv h
  have hf := sized_field hsz ht hd Tryd.underlying42
  obtain ⟨c1, e1, _, w1⟩ := DataW.trod_int Tryd.underlying2 q1
  obtain ⟨c2, e2, _, w2⟩ := DataW.trod_int Tryd.underlying3 q2
  obtain ⟨mk, hm⟩ := bools_of q0 (fun es sp e => by
    have := sized_slice hf (j := 0) (t := 40) (e := 4) rfl (by rw [e]; rfl) Tryd.underlying40
    rw [show Tryd.prog.bytesOf 4 = 1 by kernel_rfl] at this
    simp only [reachBytes] at this
    omega)
  simp only [List.cons.injEq, and_true] at e1 e2
  exact ⟨v0, c1, c2, mk, by rw [e1, e2], i64_of w1, i64_of w2, hm⟩
end Go.Proofs.YtohoppnpbgplnabDoor
