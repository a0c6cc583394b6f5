/-
  'awake' of the statements' package answers true and leaves all that was there as it was.
-/
import Derived.Test.YtcdgphneljgooabDoorWc
namespace Go.Proofs.YtcdgphneljgooabDoor
open Go.RowKit

theorem Siz.kept {S : Nat → Prop} {w w' : World} (h : Siz w) (hk : Kept S w w') (hn : ¬ S 0) : Siz w' := by
  have h0 := World.block_lt_of_cell? w _ h.1
  have e : ∀ i, w'.cell? ⟨0, i, none⟩ = w.cell? ⟨0, i, none⟩ := fun i => hk.cell (p := ⟨0, i, none⟩) h0 hn
  exact ⟨(e 0).trans h.1, (e 1).trans h.2.1, (e 2).trans h.2.2.1, (e 3).trans h.2.2.2⟩

theorem Siz.pos {w : World} (h : Siz w) : 0 < w.heap.size := World.block_lt_of_cell? w _ h.1

set_option maxHeartbeats 1000000 in
theorem awake_any (w : World) (hs : Siz w) :
    Calls Tryd.prog 14 #[] w fun e w' => e = .returned (.bool true) ∧ Fresh w w' := by
  have hp := hs.pos
  go_enter Tryd.func14, Tryd.ntmps14
  go_wp2_with fail
  refine (newWriter_any _).mono ?_
  rintro e w1 ⟨rfl, hw1, hk1⟩
  have hs1 : Siz w1 := hs.kept hk1 (fun e => e)
  go_wp2_with fail
  refine (wnumber_ok _ _ [] 258 2 _ hs1 hw1 (by simp) rfl (by omega) (by omega) (by decide)).mono ?_
  rintro e w2 ⟨rfl, v2, hw2, hk2, hm2⟩
  have hs2 : Siz w2 := hs1.kept hk2 (fun e => by rcases e with e | e; omega; simp [Value.ownBlock] at e)
  have hf2 : Fresh w w2 := hk1.trans hk2 (fun i hi h => by rcases h with e | e; omega; simp [Value.ownBlock] at e)
  go_wp2_with fail
  refine (wbytes_any _ _ _ _ hw2).mono ?_
  rintro e w3 ⟨rfl, rfl⟩
  have el : ([] ++ le (Int.toNat 258) (Int.toNat 2)).toArray = #[2, 1] := by decide
  rw [el]
  go_wp2_with fail
  refine (newReader_any _ _ (by decide)).mono ?_
  rintro e w4 ⟨b, rfl, hb4, hr4, hk4⟩
  have hs4 : Siz w4 := hs2.kept hk4 (fun e => e)
  go_wp2_with fail
  refine (rnumber_ok b _ 0 2 _ hs4 hr4 rfl (by decide) (by decide)).mono ?_
  rintro e w5 ⟨rfl, hr5, hk5⟩
  have eu : ((unle (List.take (Int.toNat 2) (List.drop 0 ((⟨#[2, 1, 120]⟩ : ByteArray).data.toList))) : Nat) : Int) = 258 := by decide
  rw [eu]
  go_wp2_with fail
  refine (rat_any b _ _ _ hr5).mono ?_
  rintro e w6 ⟨rfl, rfl⟩
  go_wp2
  go_ret
  refine ⟨rfl, (hf2.trans hk4 (fun i hi h => h)).trans hk5 (fun i hi h => ?_)⟩
  have := hf2.size
  omega

end Go.Proofs.YtcdgphneljgooabDoor
