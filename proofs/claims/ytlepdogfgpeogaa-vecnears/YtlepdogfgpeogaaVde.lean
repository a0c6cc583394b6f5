/-
  Packed numbers held against one another.
-/
import Derived.Test.YtlepdogfgpeogaaVdd
import Derived.Laws.BytesArg
namespace Go.Proofs.Ytlepdogfgpeogaa
open Go.RowKit Go.Lib Go.Maps

/-- The bytes of a row, as a string. -/
theorem conv_u8 {p : Nat → Prop} {W : World} {v : Value} {xs : List Int} (h : Rk .u8 p W v xs) : (convert 46 9 v).run Try.prog W = .ok (.string (strOfNums xs)) W := by
  obtain ⟨ao, cap, rfl, _, hc, _, hn, _⟩ := h
  cases ao with
  | none =>
    have e : xs = [] := by
      rcases xs with _ | ⟨z, r⟩
      · rfl
      · obtain ⟨b, off, h, _⟩ := hc (by simp)
        cases h
    subst e
    exact run_convert_bytes_nil W _ _ Try.underlying46 Try.underlying5 _ _ _ Try.underlying9
  | some a =>
    rcases xs with _ | ⟨z, r⟩
    · have hl : (loadCells a 0).run Try.prog W = .ok (([] : List Int).map (Value.int .u8)).toArray W := by
        have := run_loadCells_list (P := Try.prog) W a [] (fun j v hj => by simp at hj)
        simpa using this
      rw [run_convert_bytes_string W _ _ _ _ _ _ Try.underlying46 Try.underlying5 Try.underlying9]
      rw [show ([] : List Int).length = 0 from rfl, run_bytesToString W _ 0 cap [] hl, foldl_push_bytes]
      simp [strOfNums, ByteArray.empty, ByteArray.emptyWithCapacity]
      try rfl
    · obtain ⟨b, off, e, _, _, hcell⟩ := hc (by simp)
      cases e
      exact run_convert_bytes_arg W _ _ Try.underlying46 Try.underlying5 b off _ cap (z :: r) rfl hcell _ Try.underlying9

set_option maxHeartbeats 4000000 in
set_option maxRecDepth 100000 in
theorem packed_any (p q : Nat → Prop) (n g : Int) (sv hv tv uv : Value) (ss hs : List Int) (w : World) (hS : Rk .u8 p w sv ss) (hH : Rk .u8 p w hv hs) (hT : Rk .u8 q w tv ss) (hU : Rk .u8 q w uv hs) :
    Calls Try.prog 19 #[.agg #[zV n, zV g, sv, hv], .agg #[zV n, zV g, tv, uv]] w fun e w' => e = .returned (.bool true) ∧ Fresh w w' := by
  obtain ⟨W0, hW0⟩ : ∃ W0, W0 = (w.alloc (.cells #[zV n, zV g, sv, hv] 48)).alloc (.cells #[zV n, zV g, tv, uv] 51) := ⟨_, rfl⟩
  have hF0 : Fresh w W0 := by rw [hW0]; exact ((Kept.refl _ w).alloc _).alloc _
  have p1 : W0.heap[w.heap.size]? = some (.cells #[zV n, zV g, sv, hv] 48 (0, 0)) := by rw [hW0]; exact (Below.heap_alloc _ _ _ (by simp)).trans (heap_alloc_new w _)
  have p2 : W0.heap[w.heap.size + 1]? = some (.cells #[zV n, zV g, tv, uv] 51 (0, 0)) := by
    rw [hW0]
    have := heap_alloc_new (w.alloc (.cells #[zV n, zV g, sv, hv] 48)) (.cells #[zV n, zV g, tv, uv] 51)
    rwa [World.size_alloc] at this
  have a0 : W0.cell? ⟨w.heap.size, 0, none⟩ = some (zV n) := by rw [Lib.cell_of_heap p1]; rfl
  have a1 : W0.cell? ⟨w.heap.size, 1, none⟩ = some (zV g) := by rw [Lib.cell_of_heap p1]; rfl
  have a2 : W0.cell? ⟨w.heap.size, 2, none⟩ = some sv := by rw [Lib.cell_of_heap p1]; rfl
  have a3 : W0.cell? ⟨w.heap.size, 3, none⟩ = some hv := by rw [Lib.cell_of_heap p1]; rfl
  have b0 : W0.cell? ⟨w.heap.size + 1, 0, none⟩ = some (zV n) := by rw [Lib.cell_of_heap p2]; rfl
  have b1 : W0.cell? ⟨w.heap.size + 1, 1, none⟩ = some (zV g) := by rw [Lib.cell_of_heap p2]; rfl
  have b2 : W0.cell? ⟨w.heap.size + 1, 2, none⟩ = some tv := by rw [Lib.cell_of_heap p2]; rfl
  have b3 : W0.cell? ⟨w.heap.size + 1, 3, none⟩ = some uv := by rw [Lib.cell_of_heap p2]; rfl
  have k1 := conv_u8 (hS.fresh hF0)
  have k2 := conv_u8 (hH.fresh hF0)
  have k3 := conv_u8 (hT.fresh hF0)
  have k4 := conv_u8 (hU.fresh hF0)
  have HF : Hid (Fresh w W0) := hF0
  obtain ⟨x1, x2, x3, e1⟩ : ∃ a l c, sv = .slice a l c := let ⟨x, y, h, _⟩ := hS.shape; ⟨x, _, y, h⟩
  obtain ⟨y1, y2, y3, e2⟩ : ∃ a l c, hv = .slice a l c := let ⟨x, y, h, _⟩ := hH.shape; ⟨x, _, y, h⟩
  obtain ⟨z1, z2, z3, e3⟩ : ∃ a l c, tv = .slice a l c := let ⟨x, y, h, _⟩ := hT.shape; ⟨x, _, y, h⟩
  obtain ⟨u1, u2, u3, e4⟩ : ∃ a l c, uv = .slice a l c := let ⟨x, y, h, _⟩ := hU.shape; ⟨x, _, y, h⟩
  subst e1
  subst e2
  subst e3
  subst e4
  clear hS hH hT hU p1 p2 hF0
  generalize strOfNums ss = S1 at *
  generalize strOfNums hs = S2 at *
  go_enter Try.func19, Try.ntmps19
  go_wp2_with fail
  rw [← hW0]
  clear hW0
  go_wp2
  rw [k1]
  go_wp2
  go_ret
  exact ⟨by simp, HF.out⟩
end Go.Proofs.Ytlepdogfgpeogaa
