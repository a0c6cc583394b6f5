/-
  'awake' of the statements' package answers true and leaves all that was there as it was.
-/
import Derived.Test.YtomlkdahinemmaaDoorSq
import Derived.Test.YtomlkdahinemmaaDoorEx
import Derived.Test.YtomlkdahinemmaaDoorAm
namespace Go.Proofs.YtomlkdahinemmaaDoor
open Go.RowKit

theorem Bend.kept {S : Nat → Prop} {w w' : World} (h : Bend w) (hk : Kept S w w') (hn : ¬ S 0) : Bend w' := by
  have h0 := World.block_lt_of_cell? w _ h.1
  have e : ∀ i, w'.cell? ⟨0, i, none⟩ = w.cell? ⟨0, i, none⟩ := fun i => hk.cell (p := ⟨0, i, none⟩) h0 hn
  exact ⟨(e 0).trans h.1, (e 1).trans h.2.1, (e 2).trans h.2.2⟩
theorem Bend.pos {w : World} (h : Bend w) : 0 < w.heap.size := World.block_lt_of_cell? w _ h.1

set_option maxHeartbeats 1000000 in
theorem awake_any (w : World) (hB : Bend w) :
    Calls Tryd.prog 9 #[] w fun e w' => e = .returned (.bool true) ∧ Fresh w w' := by
  go_enter Tryd.func9, Tryd.ntmps9
  go_wp2_with fail
  refine (round_ok 10 2 _ ⟨by decide, by decide⟩ (by decide)).mono ?_
  rintro e w1 ⟨rfl, hw1⟩
  rw [show near 10 (2 ^ 2) = 2 by decide]
  go_wp2_with fail
  refine (sqrt_ok 15 _ (by decide)).mono ?_
  rintro e w2 ⟨r, rfl, hr, hw2⟩
  obtain rfl : r = 3 := root_unique hr (by unfold Root; decide)
  have hB2 : Bend w2 := (hB.drew hw1).drew hw2
  go_wp2_with fail
  refine (exp2_any (-32768) _ hB2 ⟨by decide, by decide⟩).mono ?_
  rintro e w3 ⟨rfl, hw3⟩
  rw [show exp2 (-32768) = 759204893 by decide]
  go_wp2_with fail
  have hrow : Rw (fun _ => True) (w3.alloc (.cells #[.int .i64 3, .int .i64 9, .int .i64 9] 2)) (.slice (some ⟨w3.heap.size, 0, none⟩) 3 3) [3, 9, 9] :=
    ⟨_, 3, rfl, by decide, fun _ => ⟨w3.heap.size, 0, rfl, trivial, by simp, fun i hi => by
      match i, hi with
      | 0, _ => simp
      | 1, _ => simp
      | 2, _ => simp⟩, fun z hz => by
        simp only [List.mem_cons, List.not_mem_nil, or_false] at hz
        unfold I64
        omega, fun h => by cases h⟩
  refine (argmax_any _ _ _ _ hrow).mono ?_
  rintro e w4 ⟨rfl, hw4⟩
  rw [show am [3, 9, 9] [(3 : Int), 9, 9].length = 1 by decide]
  go_wp2
  go_ret
  exact ⟨rfl, (((hw1.trans hw2).trans hw3).fresh.alloc _).trans hw4.fresh (fun _ _ e => e)⟩

end Go.Proofs.YtomlkdahinemmaaDoor
