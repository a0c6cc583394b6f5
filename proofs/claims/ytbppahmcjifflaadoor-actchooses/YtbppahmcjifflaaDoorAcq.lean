/-
  The closure by which greatest puts the experts' places in order.
-/
import Derived.Test.YtbppahmcjifflaaDoorAcp
import Derived.Sort.Grow
import Derived.Deep.RegionHeld3
namespace Go.Proofs.YtbppahmcjifflaaDoor
open Go.RowKit Go.Lib Go.Maps Go.Sort

/-- What the closure answers of two places whose scores are these. -/
def cfN (sx sy x y : Int) : Int := if cmpI sy sx = 0 then cmpI x y else cmpI sy sx

set_option maxHeartbeats 2000000 in
set_option maxRecDepth 100000 in
theorem closure_any (bs b1 off1 n cap x y : Nat) (sx sy : Int) (W : World) (hx : x < n) (hy : y < n) (c0 : W.cell? ⟨bs, 0, none⟩ = some (.slice (some ⟨b1, off1, none⟩) n cap)) (cx : W.cell? ⟨b1, off1 + x, none⟩ = some (zV sx)) (cy : W.cell? ⟨b1, off1 + y, none⟩ = some (zV sy)) :
    Calls Tryd.prog 54 #[zV x, zV y, .pointer (some ⟨bs, 0, none⟩)] W fun e w' => e = .returned (zV (cfN sx sy x y)) ∧ ∃ q os, w' = grow (W.drewN q) os := by
  have H64 : Hid (∀ X, _) := fun X => compare64_any sy sx X
  have HI : Hid (∀ X, _) := fun X => compare_any (x : Int) (y : Int) X
  have HO : Hid (∀ (X : World) (b : Nat), X.cell? ⟨b, 0, none⟩ = some (zV (cmpI sy sx)) → X.cell? ⟨b, 1, none⟩ = some (zV (cmpI x y)) → _) := fun X b h0 h1 => or_any b _ _ X h0 h1
  unfold cfN
  generalize cmpI sy sx = A at *
  generalize cmpI (x : Int) (y : Int) = C at *
  have hx' : (x : Int) < (n : Int) := by omega
  have hy' : (y : Int) < (n : Int) := by omega
  have hW : (W.drew.alloc (.cells #[zV A, zV C] 3)).cell? ⟨W.heap.size, 0, none⟩ = some (zV A) ∧ (W.drew.alloc (.cells #[zV A, zV C] 3)).cell? ⟨W.heap.size, 1, none⟩ = some (zV C) := by
    have p1 : (W.drew.alloc (.cells #[zV A, zV C] 3)).heap[W.heap.size]? = some (.cells #[zV A, zV C] 3 (0, 0)) := heap_alloc_new W.drew _
    exact ⟨by rw [Lib.cell_of_heap p1]; rfl, by rw [Lib.cell_of_heap p1]; rfl⟩
  have HR : Hid (Unit → _) := fun (_ : Unit) => HO.out _ _ hW.1 hW.2
  clear HO hW
  generalize (if A = 0 then C else A) = D at *
  go_enter Tryd.func54, Tryd.ntmps54
  go_wp2_with fail
  go_region_held3 (fun X => X.cell? ⟨bs, 0, none⟩ = some (.slice (some ⟨b1, off1, none⟩) n cap) ∧ X.cell? ⟨b1, off1 + x, none⟩ = some (zV sx) ∧ X.cell? ⟨b1, off1 + y, none⟩ = some (zV sy)) (go_keep) (first | (go_at_call 56; refine (H64.out _).mono ?_; rintro e w' ⟨rfl, rfl⟩) | (go_at_call 57; refine (HI.out _).mono ?_; rintro e w' ⟨rfl, rfl⟩) | (go_at_call 55; refine (HR.out ()).mono ?_; rintro e w' ⟨rfl, rfl⟩))
  all_goals
    go_wp2
    go_ret
    exact ⟨rfl, 1, _, by rw [alloc_eq_grow]; rfl⟩
end Go.Proofs.YtbppahmcjifflaaDoor
