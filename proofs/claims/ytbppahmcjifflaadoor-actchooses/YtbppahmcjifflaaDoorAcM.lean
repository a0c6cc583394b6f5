/-
  Numbers of Middle.
-/
import Derived.Test.YtbppahmcjifflaaDoorAcG
import Derived.Test.YtbppahmcjifflaaDoorVcu
namespace Go.Proofs.YtbppahmcjifflaaDoor
open Go.RowKit

def narr (s : Int) (x : Int) : Int := clamp (rdQ x s) (-127) 127
/-- A row gone through a matrix, and brought back to 8 bits. -/
def srE (w x : List Int) (s : Int) : Int := if tE w x.length x ≠ 0 then tE w x.length x else sE (tL w x.length x).length s 62
def srL (w x : List Int) (s : Int) : List Int := sL (tL w x.length x) s 62 (fun y => clamp (rdQ y s) (-127) 127)
/-- .. and left in 64 bits. -/
def scL (w x : List Int) (s : Int) : List Int := sL (tL w x.length x) s 62 (fun y => rdQ y s)
theorem sL_nil (s m : Int) (f : Int → Int) : sL [] s m f = [] := by unfold sL; split <;> rfl
theorem srE_bad {w x : List Int} {s : Int} (h : tE w x.length x ≠ 0) : srE w x s = tE w x.length x := if_pos h
theorem srE_ok {w x : List Int} {s : Int} (h : tE w x.length x = 0) : srE w x s = sE (tL w x.length x).length s 62 := if_neg (by rw [h]; simp)
theorem srL_bad {w x : List Int} {s : Int} (h : tE w x.length x ≠ 0) : srL w x s = [] := by unfold srL; rw [tL_bad h, sL_nil]
theorem scL_bad {w x : List Int} {s : Int} (h : tE w x.length x ≠ 0) : scL w x s = [] := by unfold scL; rw [tL_bad h, sL_nil]
theorem srL_len (w x : List Int) (s : Int) : (srL w x s).length ≤ 1048576 := sL_len _ _ _ _
theorem scL_len (w x : List Int) (s : Int) : (scL w x s).length ≤ 1048576 := sL_len _ _ _ _
theorem sL_mem {l : List Int} {s m : Int} {f : Int → Int} {z : Int} (h : z ∈ sL l s m f) : ∃ y ∈ l, z = f y := by
  unfold sL at h
  split at h
  · obtain ⟨y, hy, e⟩ := List.mem_map.1 h
    exact ⟨y, hy, e.symm⟩
  · cases h
theorem srL_c8 (w x : List Int) (s : Int) : ∀ z ∈ srL w x s, C8 z := by
  intro z hz
  obtain ⟨y, _, rfl⟩ := sL_mem hz
  have := clamp_bound (rdQ y s)
  unfold C8
  omega
theorem scL_i64 {w x : List Int} {s : Int} (hw : ∀ z ∈ w, C8 z) (hx : ∀ z ∈ x, C8 z) : ∀ z ∈ scL w x s, I64 z := by
  intro z hz
  obtain ⟨y, hy, rfl⟩ := sL_mem hz
  exact rdQ_i64 (tL_i64 _ hw hx y hy)
/-- A middle's numbers. -/
structure Mid where
  g : List Int
  u : List Int
  d : List Int
  gs : Int
  us : Int
  ds : Int
/-- What Middle answers. -/
def mdM (m : Mid) (b h : List Int) : List Int := gaL b (srL m.g h m.gs) (srL m.u h m.us)
def mdG (m : Mid) (b h : List Int) : Int := gaE b.length (srL m.g h m.gs).length (srL m.u h m.us).length
def mdE (m : Mid) (b h : List Int) : Int := if srE m.g h m.gs ≠ 0 then srE m.g h m.gs else if srE m.u h m.us ≠ 0 then srE m.u h m.us else if mdG m b h ≠ 0 then mdG m b h else srE m.d (mdM m b h) m.ds
def mdL (m : Mid) (b h : List Int) : List Int := if srE m.g h m.gs ≠ 0 then [] else if srE m.u h m.us ≠ 0 then [] else if mdG m b h ≠ 0 then [] else scL m.d (mdM m b h) m.ds
theorem mdL_len (m : Mid) (b h : List Int) : (mdL m b h).length ≤ 1048576 := by
  unfold mdL
  split
  · simp
  · split
    · simp
    · split
      · simp
      · exact scL_len _ _ _
theorem mdL_i64 {m : Mid} {b h : List Int} (hd : ∀ z ∈ m.d, C8 z) : ∀ z ∈ mdL m b h, I64 z := by
  unfold mdL
  split
  · intro z hz; cases hz
  · split
    · intro z hz; cases hz
    · split
      · intro z hz; cases hz
      · exact scL_i64 hd (gaL_c8 _ _ _)
end Go.Proofs.YtbppahmcjifflaaDoor
