/-
  A list of rows of int8, handed in.
-/
import Derived.Test.YtohoppnpbgplnabDoorNof
import Derived.Test.YtohoppnpbgplnabDoorGvl
namespace Go.Proofs.YtohoppnpbgplnabDoor
open Go.ChangeShapes Go.WideShapes Go.ChangeAt Go.RowKit Go.Lib Go.Maps

theorem argL8 {H : Type} {enc : TypeId × Value → H} {W : World} {r : Reach} {b0 : Nat} {v : Value} {d : DataW H} {p : List MemPlace} {ts : List TypeId} {ds : List (DataW H)} {j : Nat} (hv : Value.okWide Tryd.prog W r b0 23 v) (h : DataW.Trod enc Tryd.prog W 0 (fun _ => true) true 23 v d p)
    (hsz : (DataW.weightsEach Tryd.prog ts ds).all (· ≤ reachBytes) = true) (ht : ts[j]? = some 23) (hd : ds[j]? = some d) : ∃ L : List (List Int), LL .i8 (fun b => b < W.heap.size) W v L := by
  obtain ⟨ao, ln, cap, rfl⟩ := okWide_slice Tryd.underlying23 hv
  obtain ⟨f0, hf0⟩ := h
  exact ll_ofK ty8 tyL8 (by kernel_rfl) (x := (d, _)) hf0 (fun es sp e => by
    have e' : d = .slice es sp := e
    subst e'
    have := sized_slice hsz (j := j) (t := 23) (e := 26) ht hd Tryd.underlying23
    rw [show Tryd.prog.bytesOf 26 = 24 by kernel_rfl] at this
    simp only [reachBytes] at this
    refine ⟨by omega, fun e' sp' hm => ?_⟩
    have := sized_inner hsz (j := j) (t := 23) (e := 26) (q := 37) ht hd Tryd.underlying23 Tryd.underlying26 hm
    rw [Tryd.b8] at this
    simp only [reachBytes] at this
    simp only [kb]
    omega)
end Go.Proofs.YtohoppnpbgplnabDoor
