/-
  All; every call on a nil pool; awake.
-/
import Derived.Test.YtokjgeeklimcnaaDoorPld
namespace Go.Proofs.YtokjgeeklimcnaaDoor
open Go.RowKit

/-- In block B, a new one, lies the list over which an iterator goes. -/
def AllAt (n0 : Nat) (W : World) (B : Nat) (es : List (Nat × Int)) : Prop := n0 ≤ B ∧ ∃ v, W.heap[B]? = some (.cells #[v] 90 (0, 0)) ∧ W.ownsRow n0 93 2 v es.length (eV es)
theorem AllAt.kept {n0 : Nat} {S : Nat → Prop} {W W' : World} {B : Nat} {es : List (Nat × Int)} (h : AllAt n0 W B es) (hk : Kept S W W') (hS : ∀ k, n0 ≤ k → k < W.heap.size → ¬ S k) : AllAt n0 W' B es := by
  obtain ⟨h1, v, h2, h3⟩ := h
  exact ⟨h1, v, hk.at h2 (hS _ h1 (lt_of_heap h2)), owns_kept h3 hk (fun g hg => hS g (h3.lt g hg).1 (h3.lt g hg).2)⟩

set_option maxHeartbeats 400000 in
theorem all_any (F : Nat → Prop) (b : Nat) (l : List (Option Int)) (w : World) (h : PoolAt w F b l) :
    Calls Tryd.prog 25 #[.pointer (some ⟨b, 0, none⟩)] w fun e w' => ∃ B, e = .returned (.func (.func 42) #[] #[.pointer (some ⟨B, 0, none⟩)]) ∧ AllAt w.heap.size w' B (ents l) ∧ Fresh w w' := by
  have hh := fun (_ : Unit) => held_any F b l w h
  have HH := show Hid _ from hh
  clear hh h
  go_enter Tryd.func25, Tryd.ntmps25
  go_wp2_with fail
  refine (HH.out ()).mono ?_
  rintro e w1 ⟨v, rfl, hown, hF⟩
  have hsz := hF.size
  obtain ⟨ao, cap, rfl⟩ := slice_shape hown
  have HR : Hid (AllAt w.heap.size (w1.alloc (.cells #[.slice ao (ents l).length cap] 90)) w1.heap.size (ents l)) := ⟨hsz, _, heap_alloc_new w1 _, hown.alloc _⟩
  have HF : Hid (Fresh w (w1.alloc (.cells #[.slice ao (ents l).length cap] 90))) := hF.alloc _
  clear hown hF HH
  generalize (ents l).length = n at *
  go_wp2
  go_ret
  exact ⟨_, rfl, HR.out, HF.out⟩

set_option maxHeartbeats 400000 in
theorem used_nil (w : World) : Calls Tryd.prog 13 #[.pointer none] w fun e w' => e = .returned (.int .i64 0) ∧ w' = w := by
  go_enter Tryd.func13, Tryd.ntmps13
  go_wp2
  go_ret
  exact ⟨rfl, rfl⟩
set_option maxHeartbeats 400000 in
theorem free_nil (w : World) : Calls Tryd.prog 14 #[.pointer none] w fun e w' => e = .returned (.int .i64 0) ∧ w' = w := by
  go_enter Tryd.func14, Tryd.ntmps14
  go_wp2
  go_ret
  exact ⟨rfl, rfl⟩
set_option maxHeartbeats 400000 in
theorem taken_nil (p : Int) (w : World) : Calls Tryd.prog 35 #[.pointer none, .int .i64 p] w fun e w' => e = .returned (.bool false) ∧ w' = w := by
  go_enter Tryd.func35, Tryd.ntmps35
  go_wp2
  go_ret
  exact ⟨rfl, rfl⟩
set_option maxHeartbeats 400000 in
theorem take_nil (v : Int) (w : World) : Calls Tryd.prog 15 #[.pointer none, .int .i64 v] w fun e w' => e = .returned (.tuple #[.int .i64 (-1), .int .i64 50]) ∧ w' = w := by
  go_enter Tryd.func15, Tryd.ntmps15
  go_wp2_with fail
  refine (free_nil _).mono ?_
  rintro e w' ⟨rfl, rfl⟩
  go_wp2
  go_ret2
  exact ⟨rfl, rfl⟩
set_option maxHeartbeats 400000 in
theorem give_nil (p : Int) (w : World) : Calls Tryd.prog 16 #[.pointer none, .int .i64 p] w fun e w' => e = .returned (.tuple #[.int .i64 0, .int .i64 51]) ∧ w' = w := by
  go_enter Tryd.func16, Tryd.ntmps16
  go_wp2_with fail
  refine (taken_nil _ _).mono ?_
  rintro e w' ⟨rfl, rfl⟩
  go_wp2
  go_ret2
  exact ⟨rfl, rfl⟩
set_option maxHeartbeats 400000 in
theorem get_nil (p : Int) (w : World) : Calls Tryd.prog 28 #[.pointer none, .int .i64 p] w fun e w' => e = .returned (.tuple #[.int .i64 0, .bool false]) ∧ w' = w := by
  go_enter Tryd.func28, Tryd.ntmps28
  go_wp2_with fail
  refine (taken_nil _ _).mono ?_
  rintro e w' ⟨rfl, rfl⟩
  go_wp2
  go_ret2
  exact ⟨rfl, rfl⟩
set_option maxHeartbeats 400000 in
theorem set_nil (p v : Int) (w : World) : Calls Tryd.prog 27 #[.pointer none, .int .i64 p, .int .i64 v] w fun e w' => e = .returned (.int .i64 51) ∧ w' = w := by
  go_enter Tryd.func27, Tryd.ntmps27
  go_wp2_with fail
  refine (taken_nil _ _).mono ?_
  rintro e w' ⟨rfl, rfl⟩
  go_wp2
  go_ret
  exact ⟨rfl, rfl⟩
set_option maxHeartbeats 400000 in
theorem held_nil (w : World) : Calls Tryd.prog 41 #[.pointer none] w fun e w' => e = .returned (.slice none 0 0) ∧ w' = w := by
  go_enter Tryd.func41, Tryd.ntmps41
  go_wp2
  go_ret
  exact ⟨rfl, rfl⟩
set_option maxHeartbeats 400000 in
theorem all_nil (w : World) : Calls Tryd.prog 25 #[.pointer none] w fun e w' => e = .returned (.func (.func 42) #[] #[.pointer (some ⟨w.heap.size, 0, none⟩)]) ∧ w' = w.alloc (.cells #[.slice none 0 0] 90) := by
  go_enter Tryd.func25, Tryd.ntmps25
  go_wp2_with fail
  refine (held_nil _).mono ?_
  rintro e w' ⟨rfl, rfl⟩
  go_wp2
  go_ret
  exact ⟨rfl, rfl⟩

theorem neq_func (W : World) (B : Nat) : (binOp .neq 63 (.func (.func 42) #[] #[.pointer (some ⟨B, 0, none⟩)]) .nilFunc).run Tryd.prog W = .ok (.bool true) W := by kernel_rfl
theorem eql_func (W : World) (B : Nat) : (binOp .eql 63 (.func (.func 42) #[] #[.pointer (some ⟨B, 0, none⟩)]) .nilFunc).run Tryd.prog W = .ok (.bool false) W := by kernel_rfl

set_option maxHeartbeats 1000000 in
set_option maxRecDepth 100000 in
theorem awake_any (w : World) (hT : Tab w) : Calls Tryd.prog 20 #[] w fun e w' => e = .returned (.bool true) ∧ Fresh w w' := by
  have hp := hT.pos
  have hnf := neq_func
  go_enter Tryd.func20, Tryd.ntmps20
  go_wp2_with fail
  refine (new_any 2 _ hp (by omega) (by omega)).mono ?_
  rintro e w1 ⟨rfl, hP1, hF1⟩
  have hT1 : Tab w1 := hT.kept hF1 (fun e => e)
  go_wp2_with fail
  refine (take_any _ _ _ 7 _ hP1 hT1).mono ?_
  have e0 : fr (List.replicate 2 none) = 0 := by decide
  have e1 : fr (List.replicate 2 none) < (List.replicate 2 (none : Option Int)).length := by decide
  rw [if_pos e1, if_pos e1, e0]
  rintro e w2 ⟨rfl, F2, hP2, hk2, hF2⟩
  have hK2 : Fresh w w2 := hF1.trans hk2 (fun i hi (e : i = w.heap.size) => by omega)
  go_wp2_with fail
  refine (get_any _ _ _ 0 _ hP2).mono ?_
  rintro e w3 ⟨rfl, rfl⟩
  have e2 : gt ((List.replicate 2 none).set 0 (some 7)) 0 = some 7 := by decide
  rw [e2]
  simp only [Option.getD_some, Option.isSome_some]
  have e3 : ((List.replicate 2 none).set 0 (some (7 : Int))).length - used ((List.replicate 2 none).set 0 (some 7)) = 1 := by decide
  go_wp2_with fail
  refine (free_any _ _ _ _ hP2).mono ?_
  rw [e3]
  rintro e w4 ⟨rfl, n4, rfl⟩
  go_wp2_with fail
  refine (all_any _ _ _ _ (hP2.drewN n4)).mono ?_
  rintro e w5 ⟨B, rfl, _, hk5⟩
  go_wp2
  go_ret
  exact ⟨rfl, (hK2.drewN n4).trans hk5 (fun _ _ e => e)⟩
end Go.Proofs.YtokjgeeklimcnaaDoor
