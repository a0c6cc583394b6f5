/-
  Parts of the program.
-/
import Derived.Test.YtagbjlkpmjbfnacDoorPp
import Derived.Test.YtagbjlkpmjbfnacDoorSu
import Derived.Test.YtagbjlkpmjbfnacDoorLaV
namespace Go.Proofs.YtagbjlkpmjbfnacDoor
open Go.RowKit Ieee

set_option maxHeartbeats 800000 in
theorem Parts_any (b : Nat) (w : World) (hS : Sing w) (hT : Tab w) (hb : b < 4294967296) :
    Calls Tryd.prog 22 #[.int .u32 b] w fun e w' => e = .returned (ptOf (single.read b)).val ∧ Fresh w w' := by
  have HP := show Hid _ from fun X (hX : Tab X) => parts_single b X hX hb
  obtain ⟨P, hP⟩ : ∃ P, ptOf (single.read b) = P := ⟨_, rfl⟩
  rw [hP] at HP ⊢
  clear hP
  obtain ⟨K, N, M, E⟩ := P
  unfold Pt.val at HP ⊢
  have hn : (w.alloc (.cells #[.int .i64 0, .bool false, .int .i64 0, .int .i64 0] 45)).heap[w.heap.size]? = some (.cells #[.int .i64 0, .bool false, .int .i64 0, .int .i64 0] 45 (0, 0)) := heap_alloc_new _ _
  have hF : Fresh w (w.alloc (.cells #[.int .i64 0, .bool false, .int .i64 0, .int .i64 0] 45)) := (Kept.refl _ _).alloc _
  obtain ⟨s0, s1⟩ := hS.fresh hF
  have hT2 := hT.fresh hF
  go_enter Tryd.func22, Tryd.ntmps22
  go_wp2_with fail
  refine (HP.out _ hT2).mono ?_
  rintro r Z ⟨rfl, hZ⟩
  have hRZ := hZ.at hn (fun e => e)
  obtain ⟨⟨r0, r1, r2, r3⟩, t0, t1, t2, t3⟩ := cells4 hRZ
  clear hn
  go_wp2
  exact bodyPost_ret (v := .agg #[.int .i64 K, .bool N, .int .i64 M, .int .i64 E]) (by simp [results, Tryd.results22, go_sem, r0, r1, r2, r3]) rfl ⟨rfl, fresh_set4 (hF.trans hZ (fun _ _ e => e)) (by omega) _ _ _ _⟩

theorem tab_all : ∀ j, j < 32 → ([0, 1, 28, 2, 29, 14, 24, 3, 30, 22, 20, 15, 25, 17, 4, 8, 31, 27, 13, 23, 21, 19, 16, 7, 26, 12, 18, 6, 11, 5, 10, 9] : List Int).getD j 0 = ((Lib.deBruijn32tab.getD j 0 : Nat) : Int) := by decide +kernel
theorem tab_of_laid {W : World} {rest : List (String × DataW Unit)} (h : laidMet Tryd.prog (("math/bits.deBruijn32tab", Rows.laid_math_bits_deBruijn32tab) :: rest) W) : Tab W := by
  have hg : Tryd.prog.globalNamed "math/bits.deBruijn32tab" = some 3 := by kernel_rfl
  have ht : Lib.TabIs Tryd.prog W "math/bits.deBruijn32tab" .u8 [0, 1, 28, 2, 29, 14, 24, 3, 30, 22, 20, 15, 25, 17, 4, 8, 31, 27, 13, 23, 21, 19, 16, 7, 26, 12, 18, 6, 11, 5, 10, 9] :=
    Lib.tabIs_of_head (rest := rest) hg (t := 74) (by kernel_rfl) Tryd.underlying74 Tryd.underlying5 (by kernel_rfl) (by kernel_rfl) h
  intro j hj
  have hj' : j < 32 := hj
  have := ht.cell hg j hj'
  rw [tab_all j hj'] at this
  exact this

end Go.Proofs.YtagbjlkpmjbfnacDoor
