/-
  For every place and number the statement PoolNil answers true: every call on a nil pool answers as the document says.
-/
import Derived.Test.YtokjgeeklimcnaaDoorPlf
namespace Go.Proofs.YtokjgeeklimcnaaDoor
open Go.RowKit Go.Shelf

attribute [local go_sem] Oper.semAt_some

theorem Fresh.below {w w' : World} (h : Fresh w w') : Below w.heap.size w w' := Kept.below h (Nat.le_refl _) (fun _ _ e => e)
theorem Fresh.of {w w' : World} (h : Below w.heap.size w w') : Fresh w w' := Kept.ofBelow h (fun i hi e => by omega)

set_option maxRecDepth 100000 in
set_option maxHeartbeats 2000000 in
theorem nil_walk (place v : Int) (w : World) (hT : Tab w) : Calls Tryd.prog 8 #[.int .i64 place, .int .i64 v] w fun e w' => e = .returned (.bool true) ∧ Fresh w w' := by
  have hef := eql_func
  have HT : Hid (∀ W, Fresh w W → Tab W) := fun W hk => hT.kept hk (fun e => e)
  refine (callsIn_wide (n := 10)).1 ?_
  refine callsIn_of_wp_marks Tryd.func8 rfl trivial ?_ rfl
  simp only [Tryd.ntmps8, List.size_toArray, List.length_cons, List.length_nil, Nat.reduceAdd, Nat.reduceSub, Array.replicate_succ, Array.replicate_zero, List.push_toArray, List.append_toArray, List.nil_append, List.cons_append]
  gi_wp2_with (first
    | (refine ⟨trivial, ?_⟩; gi_at_call 15; refine (callsIn_wide.2 (take_nil _ _)).mono ?_; rintro e w' ⟨rfl, rfl⟩)
    | (refine ⟨trivial, ?_⟩; gi_at_call 16; refine (callsIn_wide.2 (give_nil _ _)).mono ?_; rintro e w' ⟨rfl, rfl⟩)
    | (refine ⟨trivial, ?_⟩; gi_at_call 28; refine (callsIn_wide.2 (get_nil _ _)).mono ?_; rintro e w' ⟨rfl, rfl⟩)
    | (refine ⟨trivial, ?_⟩; gi_at_call 25; refine (callsIn_wide.2 (all_nil _)).mono ?_; rintro e w' ⟨rfl, rfl⟩))
  refine ⟨trivial, ?_⟩
  have hF0 : Fresh w ((w.alloc (.cells #[.bool false] 4)).alloc (.cells #[.slice none 0 0] 90)) := ((Kept.refl _ w).alloc _).alloc _
  refine (callsIn_wide.2 (awake_any _ (HT.out _ hF0))).mono ?_
  rintro e X ⟨rfl, hkX⟩
  have hFX : Fresh w X := hF0.trans hkX (fun _ _ e => e)
  have bR : Boxed X w.heap.size 4 (.bool false) := hkX.at ((Boxed.new w 4 (.bool false)).alloc _) (fun e => e)
  have bB : X.heap[w.heap.size + 1]? = some (.cells #[.slice none 0 0] 90 (0, 0)) := hkX.at (by have := heap_alloc_new (w.alloc (.cells #[.bool false] 4)) (.cells #[.slice none 0 0] 90); rwa [World.size_alloc] at this) (fun e => e)
  have hsX : w.heap.size + 2 ≤ X.heap.size := by have := hkX.size; simp at this; omega
  have hBX := Fresh.below hFX
  clear hkX hF0 hFX
  gi_wp2
  refine wpIn_rangeFunc_ownH (F := Fence.wide) rfl (by omega) (gf := 42) (lb := #[.pointer (some ⟨w.heap.size + 1, 0, none⟩)]) rfl trivial (enters_of Tryd.func42 (by kernel_rfl) rfl)
    (iter_stops Fence.wide 9 trivial rfl (by omega) (w.heap.size + 1) (.slice none 0 0) [] (by simp) X bB (World.ownsRow_nil _ _ _ _)) Kp.trans (fun W l o o' hl _ _ _ => ⟨World.putObj_heap_other (by omega), fun g e => by simp [Value.ownBlock] at e⟩) (Below.refl _ _) (fun _ => rfl)
    (fun _ W => Boxed W w.heap.size 4 (.bool false) ∧ Below w.heap.size w W) (fun _ _ _ => False)
    (OwnFrom.and (Own.from (boxed_own _ _ _) _) (ownFrom_below (Nat.le_refl _) (by omega)))
    (fun _ _ _ _ _ hs _ _ => hs) ⟨bR, hBX⟩ (fun _ _ _ => True) (fun _ _ _ _ _ _ hs _ _ => hs) ?assign ?body ?done ?stop
  case assign =>
    rintro l pre x W K hi hK
    gi_wp2
    exact hK _ _ (KeepsFrom.refl _ _) (Kp.refl _ _ _) hi trivial
  case body =>
    rintro l pre x a' W hl hr hi hax hlt
    simp at hlt
  case done =>
    rintro D xs W hD hxs ⟨hi, hB⟩ hK
    have cR := hi.cell
    have fR := hi.frozen
    gi_wp2_with (first
      | (refine ⟨trivial, ?_⟩; gi_at_call 27; refine (callsIn_wide.2 (set_nil _ _ _)).mono ?_; rintro e w' ⟨rfl, rfl⟩)
      | (refine ⟨trivial, ?_⟩; gi_at_call 14; refine (callsIn_wide.2 (free_nil _)).mono ?_; rintro e w' ⟨rfl, rfl⟩)
      | (refine ⟨trivial, ?_⟩; gi_at_call 13; refine (callsIn_wide.2 (used_nil _)).mono ?_; rintro e w' ⟨rfl, rfl⟩))
    have hK' := (KeepsOthers.setCell _ ⟨w.heap.size, 0, none⟩ (.bool true)).same D _ hK rfl
    refine ⟨by simp, .inl ⟨_, _, rfl, run_takeDeferred hK', ?_⟩⟩
    have hc5 := cell_kept (hi.set (.bool true)).cell (grownBy_putObj' _ D (.deferred none)) (fun r e => by cases e; exact ⟨_, hK', rfl⟩)
    refine ⟨.bool true, ?_, rfl, Fresh.of ((hB.setCell (p := ⟨w.heap.size, 0, none⟩) (by simp) _).trans (belowK_b (w := w) (Nat.le_refl _) _ D _ _ (by omega) hK' rfl rfl))⟩
    simp [results, Tryd.f8, go_sem, hc5]
  case stop =>
    rintro D c pre W hD hpre hi hK
    exact hi.elim
end Go.Proofs.YtokjgeeklimcnaaDoor
