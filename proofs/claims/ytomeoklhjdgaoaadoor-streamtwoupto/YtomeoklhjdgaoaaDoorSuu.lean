/-
  begun.
-/
import Derived.Test.YtomeoklhjdgaoaaDoorSur
namespace Go.Proofs.YtomeoklhjdgaoaaDoor
open Go.RowKit Go.Lib Go.Maps

theorem results_tct {P : Program} {fn : Func} {p u v : Tmp} {ty : TypeId} (h : fn.results = #[.tmp v, .cell p ty, .tmp u]) (tmps : Array Value) (w : World) (g : Nat) (t : TypeId) (cs : Array Value) (fr : Nat × Nat) (d : TypeDesc)
    (hp : tmps.getD p undef = .pointer (some ⟨g, 0, none⟩)) (hg : w.heap[g]? = some (.cells cs t fr))
    (hu : P.underlying ty = some d) (hd : (match d with | .struct _ | .array _ _ => true | _ => false) = true) (hi : (P.info? ty).map (·.size) = some cs.size) :
    (results fn tmps).run P w = .ok (.tuple #[tmps.getD v undef, .agg cs, tmps.getD u undef]) w := by
  have hp' : tmps[p]?.getD undef = .pointer (some ⟨g, 0, none⟩) := by simpa using hp
  simp [results, h, hp', asAddr, run_loadVar_row w g t ty cs fr d hg hu hd hi, Result.andThen]
theorem noCut_nil {T : List (List UInt8)} (hG : GdT T) : NoCut T [] := fun n => bst_none.2 (fun j hj he => by have := he.room (hG.ne j hj); have h5 := List.length_pos_iff.2 (hG.ne j hj); have := he.1; simp at *; omega)
theorem pls_new {T : List (List UInt8)} {F : Nat → Prop} {W : World} {b : Nat} {so : Option Addr} {sn sc : Nat} (hG : GdT T) (hS : StM F W b T [] [] false false 0) (hR : TxR (fun q => ¬ F q) W (.slice so sn sc) T) :
    PlS T F W (.pointer (some ⟨b, 0, none⟩)) so sn sc false [] [] (-1) false := .inr ⟨rfl, b, rfl, hR, hG, .inl ⟨rfl, rfl, noCut_nil hG, rfl, hS⟩⟩
theorem pls_nil (T : List (List UInt8)) (F : Nat → Prop) (W : World) (so : Option Addr) (sn sc : Nat) : PlS T F W (.pointer none) so sn sc true [] [] (-1) false := .inl ⟨rfl, rfl, rfl, rfl⟩
/-- The list handed to New, which begun spoils. -/
def InAt (T : List (List UInt8)) (v : Value) (lo hi i : Nat) (W : World) : Prop := 0 < T.length → ∃ g cap cur, v = .slice (some ⟨g, 0, none⟩) T.length cap ∧ lo ≤ g ∧ g < hi ∧ W.heap[g]? = some (.cells cur 9 (0, 0)) ∧ T.length ≤ cur.size ∧ ∀ j, i ≤ j → j < T.length → cur[j]? = some (sV (tX T j))
theorem inAt_of {T : List (List UInt8)} {v : Value} {B : Nat} {W : World} (h : W.ownsRow B 9 1 v T.length (T.map sV)) : InAt T v B W.heap.size 0 W := fun h0 => by
  rcases h.2 with ⟨_, e⟩ | ⟨g, cap, cur, rfl, hb, hg, hnc, _, hcs, ht⟩
  · omega
  · refine ⟨g, cap, cur, rfl, hb, lt_of_heap hg, hg, by omega, fun j _ hj => ?_⟩
    have e1 : (cur.toList.take (T.length * 1))[j]? = (T.map sV)[j]? := by rw [ht]
    rw [List.getElem?_take_of_lt (by omega), List.getElem?_map, List.getElem?_eq_getElem hj] at e1
    rw [← Array.getElem?_toList, e1, tX, List.getD_eq_getElem?_getD, List.getElem?_eq_getElem hj]
    rfl
theorem InAt.kept {T : List (List UInt8)} {v : Value} {lo hi i : Nat} {W W' : World} (h : InAt T v lo hi i W) (hk : Fresh W W') : InAt T v lo hi i W' := fun h0 => by
  obtain ⟨g, cap, cur, h1, h2, h3, h4, h5, h6⟩ := h h0
  exact ⟨g, cap, cur, h1, h2, h3, hk.at h4 (fun e => e), h5, h6⟩
theorem InAt.set {T : List (List UInt8)} {n cap lo hi i g : Nat} {W : World} (x : Value) (h : InAt T (.slice (some ⟨g, 0, none⟩) n cap) lo hi i W) : InAt T (.slice (some ⟨g, 0, none⟩) n cap) lo hi (i + 1) (W.setCell ⟨g, i, none⟩ x) := fun h0 => by
  obtain ⟨g', cap', cur, h1, h2, h3, h4, h5, h6⟩ := h h0
  injection h1 with e1 e2 e3
  injection e1 with e1
  injection e1 with e1
  subst e1
  refine ⟨g, cap', cur.setIfInBounds i x, by rw [e2, e3], h2, h3, set_blk h4 x, by rw [Array.size_setIfInBounds]; exact h5, fun j hj hjl => ?_⟩
  rw [Array.getElem?_setIfInBounds_ne (by omega)]
  exact h6 j (by omega) hjl
end Go.Proofs.YtomeoklhjdgaoaaDoor
