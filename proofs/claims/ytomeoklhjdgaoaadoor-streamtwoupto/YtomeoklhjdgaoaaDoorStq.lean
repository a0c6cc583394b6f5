/-
  The tables out of what is laid, some int in MaxLen; texts and rows of texts as they are handed in.
-/

import Derived.Test.YtomeoklhjdgaoaaDoorStp
import Derived.Test.YtomeoklhjdgaoaaDoorStj
import Derived.Test.YtomeoklhjdgaoaaDoorFrQ
import Derived.Test.YtomeoklhjdgaoaaDoorBulk1
import Derived.Test.YtomeoklhjdgaoaaDoorTie
import Derived.Test.YtomeoklhjdgaoaaDoorCards
import Derived.Lib.LaidU8
import Derived.Shelf.Vars
import Derived.LaidHandle
import Derived.MakeChecks
import Derived.SizedLaws
namespace Go.Proofs.YtomeoklhjdgaoaaDoor
open Go.ChangeShapes Go.WideShapes Go.ChangeAt Go.RowKit Go.Lib Go.Maps

theorem firstIs : Go.Pinned.utf8First = Lib.firstData := by kernel_rfl
theorem acceptIs : (Rows.laid_unicode_utf8_acceptRanges : DataW Unit) = Lib.acceptData := by kernel_rfl
set_option maxRecDepth 100000 in
theorem tbm_of {W : World} (h : laidMetH Tryd.prog Rows.streamCleansRow.laid W) (hsh : W.ShapedOpen Tryd.prog) : TbM W := by
  have hL : laidMet Tryd.prog Rows.streamCleansRow.laid W := by rw [← Go.MakeChecks.laidMetH_plain Tryd.prog Rows.streamCleansRow.laid W (by kernel_rfl)]; exact h
  have h4 := Lib.laidMet.reads hL (.head _)
  have h3 := Lib.laidMet.reads hL (.tail _ (.head _))
  rw [show Rows.laid_unicode_utf8_first = Lib.firstData from firstIs] at h3
  rw [acceptIs] at h4
  refine ⟨utf8Tabs_of_reads { Tryd.lays197 with } ⟨by kernel_rfl, by kernel_rfl, by kernel_rfl, by kernel_rfl, by kernel_rfl, by kernel_rfl, by kernel_rfl⟩ h3 h4, ?_⟩
  exact cell_of_shapedOpen_int (zero := #[.int .i64 0]) (t := 3) hsh (of_decide_eq_true (by kernel_rfl)) (by kernel_rfl) rfl (by kernel_rfl) (by kernel_rfl) Tryd.underlying3

theorem bulk_mem {H : Type} {d : DataW H} : ∀ {es : List (DataW H)}, d ∈ es → Rows.uptoBulk d ≤ Rows.uptoBulkAll es
  | [], h => by cases h
  | x :: r, h => by
    simp only [Rows.uptoBulkAll]
    rcases List.mem_cons.1 h with h | h
    · subst h; omega
    · have := bulk_mem h; omega
set_option maxRecDepth 100000 in
/-- A row of texts that is handed in. -/
theorem txr_of {H : Type} {enc : TypeId × Value → H} {W : World} {r : Reach} {b0 : Nat} {v : Value} {d : DataW H} {p : List MemPlace} (hv : Value.okWide Tryd.prog W r b0 26 v) (h : DataW.Trod enc Tryd.prog W 0 (fun _ => true) true 26 v d p) (hb : Rows.uptoBulk d ≤ 1048576) :
    ∃ T : List (List UInt8), TxR (fun b => b < W.heap.size) W v T := by
  obtain ⟨ao, ln, cap, rfl⟩ := okWide_slice Tryd.underlying26 hv
  obtain ⟨fuel, hf⟩ := h
  refine txr_at (x := (d, p)) hf (fun es sp e => ?_) (fun es sp bs e hm => ?_)
  · have e' : d = .slice es sp := e
    rw [e'] at hb
    simp only [Rows.uptoBulk] at hb
    have := bulk_length es
    omega
  · have e' : d = .slice es sp := e
    rw [e'] at hb
    simp only [Rows.uptoBulk] at hb
    have := bulk_mem hm
    simp only [Rows.uptoBulk] at this
    omega
set_option maxRecDepth 100000 in
/-- A text that is handed in. -/
theorem str_of {H : Type} {enc : TypeId × Value → H} {W : World} {r : Reach} {b0 : Nat} {v : Value} {d : DataW H} {p : List MemPlace} (hv : Value.okWide Tryd.prog W r b0 9 v) (h : DataW.Trod enc Tryd.prog W 0 (fun _ => true) true 9 v d p) (hb : Rows.uptoBulk d ≤ 1048576) :
    ∃ l : List UInt8, v = sV l ∧ l.length ≤ 1048576 := by
  obtain ⟨s, rfl, rfl, _, hs⟩ := ChangeMaps.open_string Tryd.underlying9 hv h
  refine ⟨s.data.toList, rfl, ?_⟩
  simp only [Rows.uptoBulk] at hb
  have : s.data.toList.length = s.toList.length := by rw [Lib.toList_data]
  omega
end Go.Proofs.YtomeoklhjdgaoaaDoor
