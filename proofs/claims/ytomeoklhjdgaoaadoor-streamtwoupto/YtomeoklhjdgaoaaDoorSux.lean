/-
  A script played on a stream and on the document's: what is known between two calls.
-/
import Derived.Test.YtomeoklhjdgaoaaDoorSuw
import Derived.Test.YtomeoklhjdgaoaaDoorStj
namespace Go.Proofs.YtomeoklhjdgaoaaDoor
open Go.RowKit Go.Lib Go.Maps

/-- A stream and the document's in its cell, made since W1. -/
structure PyS (T : List (List UInt8)) (F0 : Nat → Prop) (w W1 wr : World) (mb : Nat) (pv : Value) (so : Option Addr) (sn sc : Nat) (no : Bool) (len : Nat) (all out : List UInt8) (met : Int) (en : Bool) (F : Nat → Prop) : Prop where
  pl : PlS T F wr pv so sn sc no all out met en
  mv : Mvd F0 W1 F wr
  lo : ∀ q, F q → q < wr.heap.size
  mF : ¬ F mb
  mb1 : W1.heap.size ≤ mb
  bx : wr.heap[mb]? = some (.cells #[.bool no, .slice so sn sc, sV all, sV out, zV met, .bool en] 30 (0, 0))
  le : all.length ≤ len
  fr : Fresh w wr
  p0 : PlS T F0 W1 pv so sn sc no [] [] (-1) false
  n0 : ∀ q, F0 q → w.heap.size ≤ q
  w1 : Fresh w W1
section
variable {T : List (List UInt8)} {F0 F : Nat → Prop} {w W1 wr : World} {mb : Nat} {pv : Value} {so : Option Addr} {sn sc : Nat} {no : Bool} {len : Nat} {all out : List UInt8} {met : Int} {en : Bool}
theorem PyS.fresh (h : PyS T F0 w W1 wr mb pv so sn sc no len all out met en F) {X : World} (hk : Fresh wr X) : PyS T F0 w W1 X mb pv so sn sc no len all out met en F :=
  ⟨h.pl.fresh hk, h.mv.trans (Mvd.fresh hk), fun q e => Nat.lt_of_lt_of_le (h.lo q e) hk.size, h.mF, h.mb1, hk.at h.bx (fun e => e), h.le, h.fr.trans hk (fun _ _ e => e), h.p0, h.n0, h.w1⟩
theorem mvd_low {F F' : Nat → Prop} {a b : World} (h : Mvd F a F' b) (hl : ∀ q, F q → q < a.heap.size) : Mvd F a (fun q => F' q ∧ q < b.heap.size) b :=
  ⟨h.1, fun q e => ⟨h.2.1 q e, Nat.lt_of_lt_of_le (hl q e) h.1.size⟩, fun q e => h.2.2 q e.1⟩
/-- A call's answer is stored. -/
theorem PyS.next (h : PyS T F0 w W1 wr mb pv so sn sc no len all out met en F) {X Y : World} {all' out' : List UInt8} {met' : Int} {en' : Bool} {F' : Nat → Prop} {l2 : Nat} (hp : PlS T F' X pv so sn sc no all' out' met' en') (hm : Mvd F wr F' X) (hl : all'.length ≤ l2)
    (hb : Y.heap[mb]? = some (.cells #[.bool no, .slice so sn sc, sV all', sV out', zV met', .bool en'] 30 (0, 0))) (hk : Kept (fun q => q = mb) X Y) : PyS T F0 w W1 Y mb pv so sn sc no l2 all' out' met' en' (fun q => F' q ∧ q < X.heap.size) := by
  have hm2 : Mvd F wr (fun q => F' q ∧ q < X.heap.size) X := mvd_low hm h.lo
  have hm3 := h.mv.trans hm2
  have hmb := lt_of_heap h.bx
  have hnm : ¬ (F' mb ∧ mb < X.heap.size) := fun e => ((hm.2.2 mb e.1).elim h.mF (fun e2 => by omega))
  have hb1 := h.mb1
  refine ⟨PlS.store h.p0 hp.low rfl hm3.1 hm3.2.2 h.mb1 hnm hk, ⟨hm3.1.trans hk (fun i hi e => by have e' : i = mb := e; omega), hm3.2.1, hm3.2.2⟩, fun q e => Nat.lt_of_lt_of_le e.2 hk.size, hnm, h.mb1, hb, hl, ?_, h.p0, h.n0, h.w1⟩
  have h1 : Kept (fun _ => False) w X := h.w1.trans hm3.1 (fun i hi e => by have := h.n0 i e; omega)
  exact h1.trans hk (fun i hi e => by have e' : i = mb := e; have := h.w1.size; omega)
end
end Go.Proofs.YtomeoklhjdgaoaaDoor
