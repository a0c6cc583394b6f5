/-
  A shape as the document has it.
-/
import Derived.Test.YtakiimjldccgcaaDoorFilToShA
import Derived.Test.YtakiimjldccgcaaDoorStRToVoN
namespace Go.Proofs.YtakiimjldccgcaaDoor
open Go.RowKit Go.Lib Go.Maps

theorem plain_any (s : Shp) (w : World) : Calls Tryd.prog 12 #[s.val] w fun e w' => e = .returned s.val ∧ Fresh w w' := by
  obtain ⟨v, c, d, h, l, n⟩ := s
  unfold Shp.val
  simp only
  have h2 := heap_alloc_new (w.alloc (.cells #[zV v, zV c, zV d, zV h, zV l, zV n] 23)) (.cells #[zV v, zV c, zV d, zV h, zV l, zV n] 30)
  rw [World.size_alloc] at h2
  go_enter Tryd.func12, Tryd.ntmps12
  go_wp2
  exact ret_cell rfl (w.heap.size + 1) _ _ (0, 0) _ rfl h2 Tryd.underlying30 rfl (by kernel_rfl) rfl ⟨rfl, ((Kept.refl _ w).alloc _).alloc _⟩
end Go.Proofs.YtakiimjldccgcaaDoor
