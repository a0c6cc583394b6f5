/-
  The iterator that All makes: it hands over all that its list holds, one behind the other, to whatever loop body.
-/
import Derived.Test.YtokjgeeklimcnaaDoorPle
import Derived.RangeFuncNested
import Derived.RangeFuncBound
import Derived.RangeFuncCalls
import Derived.RangeFuncLeaves
import Derived.Shelf.Abstract
import Derived.Shelf.RegionOpen
import Derived.OwnWalkIn
import Derived.TacticsInMore
import Derived.LoopNIn
import Derived.LoopIn
namespace Go.Proofs.YtokjgeeklimcnaaDoor
open Go.RowKit Go.Shelf

attribute [local go_sem] Oper.semAt_some

/-- What a round must keep: the box of the iterator's list, and the list. -/
def Kp (B : Nat) (v : Value) (W W' : World) : Prop := W'.heap[B]? = W.heap[B]? ∧ ∀ g, v.ownBlock = some g → W'.heap[g]? = W.heap[g]?
theorem Kp.refl (B : Nat) (v : Value) (W : World) : Kp B v W W := ⟨rfl, fun _ _ => rfl⟩
theorem Kp.trans {B : Nat} {v : Value} {X Y Z : World} (h : Kp B v X Y) (k : Kp B v Y Z) : Kp B v X Z := ⟨k.1.trans h.1, fun g hg => (k.2 g hg).trans (h.2 g hg)⟩
theorem Kp.of {S : Nat → Prop} {B : Nat} {v : Value} {W W' : World} (h : Kept S W W') (hB : B < W.heap.size) (hv : ∀ g, v.ownBlock = some g → g < W.heap.size ∧ ¬ S g) (hS : ¬ S B) : Kp B v W W' := ⟨h.block B hB hS, fun g hg => h.block g (hv g hg).1 (hv g hg).2⟩

/-- A pair's cells. -/
theorem eV_at : ∀ (es : List (Nat × Int)) (k : Nat) (h : k < es.length), (eV es)[2 * k]? = some (.int .i64 (es[k].1 : Int)) ∧ (eV es)[2 * k + 1]? = some (.int .i64 es[k].2)
  | e :: es, 0, _ => by simp [eV]
  | e :: es, k + 1, h => by
    have := eV_at es k (by simpa using h)
    have e1 : eV (e :: es) = .int .i64 (e.1 : Int) :: .int .i64 e.2 :: eV es := by simp [eV]
    rw [e1, show 2 * (k + 1) = 2 * k + 1 + 1 by omega]
    simpa using this

/-- The pairs that an iterator hands over. -/
abbrev enc2 (x : Nat × Int) : Array Value := #[.int .i64 (x.1 : Int), .int .i64 x.2]

set_option maxRecDepth 100000 in
set_option maxHeartbeats 2000000 in
theorem iter_stops (F : Fence) (n : Nat) (hf : F.fn 42) (hro : F.round = none) (hn : 1 ≤ n) (B : Nat) (v : Value) (es : List (Nat × Int)) (hlen : es.length ≤ 65536) (w : World)
    (hB : w.heap[B]? = some (.cells #[v] 90 (0, 0))) (hv : w.ownsRow 0 93 2 v es.length (eV es)) :
    SeqStopsK F n Tryd.prog 42 #[.pointer (some ⟨B, 0, none⟩)] enc2 (Kp B v) (fun ys => ys = es) (fun pre => pre <+: es) es.length w := fun l J Jx W hW hJ _ hY h0 => by
  have hB' : W.heap[B]? = some (.cells #[v] 90 (0, 0)) := (hW.block B (lt_of_heap hB)).trans hB
  have hv' : W.ownsRow 0 93 2 v es.length (eV es) := by
    refine owns_kept hv (S := fun _ => False) ⟨hW.os, hW.tape, hW.output, hW.size, fun k hk _ => hW.block k hk⟩ (fun _ _ e => e)
  clear hB hv hW
  have hcB : W.cell? ⟨B, 0, none⟩ = some v := cell_of_one hB'
  obtain ⟨ao, cap, rfl⟩ := slice_shape hv'
  show CallsIn F n Tryd.prog 42 #[.func (.yield l) #[] #[], .pointer (some ⟨B, 0, none⟩)] W _
  refine callsIn_of_wp Tryd.func42 rfl hf ?_ hro
  simp only [Tryd.ntmps42, List.size_toArray, List.length_cons, List.length_nil, Nat.reduceAdd, Nat.reduceSub, Array.replicate_succ, Array.replicate_zero, List.push_toArray, List.append_toArray, List.nil_append, List.cons_append]
  gi_wp2
  gi_loopw [7] (fun i wr => ∃ k : Nat, k ≤ es.length ∧ i = .int .i64 (k : Int) ∧ J (es.take k) wr ∧ Kp B (.slice ao es.length cap) W wr) (fun i _ => es.length - (intOf i).toNat)
  case atStart => exact ⟨0, Nat.zero_le _, rfl, h0, Kp.refl _ _ _⟩
  case round =>
    obtain ⟨k, hk, rfl, hJs, hkp⟩ := hrel
    by_cases hlt : k < es.length
    · have hvr : wr.ownsRow 0 93 2 (.slice ao es.length cap) es.length (eV es) := by
        refine ⟨hv'.1, ?_⟩
        rcases hv'.2 with h' | ⟨g, cp, cur, h1, h2, h3, h4⟩
        · exact .inl h'
        · exact .inr ⟨g, cp, cur, h1, h2, (hkp.2 g (by rw [h1]; rfl)).trans h3, h4⟩
      obtain ⟨g, cp, hg, _, _⟩ := hvr.form (by omega)
      cases hg
      obtain ⟨q1, q2⟩ := eV_at es k hlt
      have d1 := hvr.cellAt (2 * k) (by omega)
      have d2 := hvr.cellAt (2 * k + 1) (by omega)
      rw [q1] at d1
      rw [q2] at d2
      have d1' : wr.cell? ⟨g, k * 2, none⟩ = some (.int .i64 (es[k].1 : Int)) := by rw [Nat.mul_comm]; exact d1
      have d2' : wr.cell? ⟨g, k * 2 + 1, none⟩ = some (.int .i64 es[k].2) := by rw [Nat.mul_comm]; exact d2
      have hJa : ∀ o, J (es.take k) (wr.alloc o) := fun o => hJ _ _ _ none hJs ⟨rfl, rfl, rfl, by simp, fun i hi _ => Below.heap_alloc wr o i hi⟩ (fun r e => by cases e)
      obtain ⟨fn, tmps, assign, body, hy, hR⟩ := hY _ es[k] _ (hJa (.cells #[.int .i64 (es[k].1 : Int), .int .i64 es[k].2] 93)) (by rw [List.length_take]; omega)
      dsimp only [enc2] at hy
      have htk : es.take k ++ [es[k]] = es.take (k + 1) := by simp
      have HT : Hid (es.take k ++ [es[k]] = es.take (k + 1)) := htk
      have HR := show Hid _ from (fun (_ : Unit) => hR)
      clear htk hR d1 d2 q1 q2 hvr hJa
      have hBw : B < wr.heap.size := lt_of_heap (hkp.1.trans hB')
      have hgw : g < wr.heap.size := World.block_lt_of_cell? wr _ d1'
      have hka : ∀ o, Kp B (.slice (some ⟨g, 0, none⟩) es.length cap) wr (wr.alloc o) := fun o => ⟨Below.heap_alloc wr o B hBw, fun g' e => by simp only [Value.ownBlock, Option.some.injEq] at e; subst e; exact Below.heap_alloc wr o g hgw⟩
      have HK := show Hid _ from hka
      clear hka
      gi_wp2
      refine (HR.out ()).mono ?_
      rintro e W3 (⟨rfl, hJ3, hk3⟩ | ⟨rfl, hJx3⟩)
      · rw [HT.out] at hJ3
        gi_wp2
        go_roundw
        case rel => exact ⟨k + 1, by omega, by go_num, hJ3, (hkp.trans (HK.out _)).trans hk3⟩
        case measure => simp [intOf]; omega
      · rw [HT.out] at hJx3
        gi_wp2
        refine bodyPost_ret (results_none rfl _ _ _) rfl ?_
        exact ⟨⟨_, rfl⟩, .inr ⟨_, List.take_prefix _ _, hJx3⟩⟩
    · obtain rfl : k = es.length := by omega
      rw [List.take_length] at hJs
      gi_wp2
      go_end0
      exact ⟨⟨_, rfl⟩, .inl ⟨_, rfl, hJs⟩⟩
end Go.Proofs.YtokjgeeklimcnaaDoor
