/-
  Lists of uint32, out of their readings; two numbers given, in boxes.
-/
import Derived.Test.YtdmjfmipalifpaaGreatDoorGvb
import Derived.Test.YtdmjfmipalifpaaGreatDoorNl
import Derived.Test.YtdmjfmipalifpaaGreatDoorIsa
import Derived.Test.YtdmjfmipalifpaaGreatDoorBulk1
namespace Go.Proofs.YtdmjfmipalifpaaGreatDoor
open Go.ChangeShapes Go.WideShapes Go.ChangeAt Go.RowKit

theorem Tryz.c32 : Tryz.prog.cellsOf 93 = 1 := by kernel_rfl
/-- A slice of uint32, out of its reading. -/
theorem dw_of {H : Type} {enc : TypeId × Value → H} {W : World} {fuel : Nat} {v : Value} {x : DataW H × List MemPlace} (h : DataW.trod enc Tryz.prog W 0 (fun _ => true) true fuel 37 [v] = some x)
    (hsz : Rows.uptoBulk x.1 ≤ 1048576) : ∃ L : List Nat, Dw .u32 4294967296 (fun _ => True) W v L ∧ L.length ≤ 1048576 := by
  rcases open_ints Tryz.underlying37 Tryz.underlying93 Tryz.c32 h with ⟨hcs, hx⟩ | ⟨a, len, cap, zs, hcs, _, hl, hm, hz, hx, hcell, hwz⟩
  · have hv : v = .slice none 0 0 := by simpa using hcs
    subst hv
    exact ⟨[], Dw.nil _ _ _ _, by simp⟩
  · simp only [if_true] at hz
    have htl : ((zs.take len).map Int.toNat).length = len := by rw [List.length_map, List.length_take]; omega
    have hle : len ≤ 1048576 := by
      rw [hx] at hsz
      have h1 := bulk_length (lits (H := H) .u32 (zs.take len))
      have h2 : (lits (H := H) .u32 (zs.take len)).length = len := by simp [lits]; omega
      simp only [Rows.uptoBulk] at hsz
      omega
    refine ⟨(zs.take len).map Int.toNat, ⟨some a, cap, ?_, ⟨by omega, by omega⟩, by unfold maxLen at hm; omega, fun h0 => ?_, ?_, fun e => by cases e⟩, by omega⟩
    · rw [htl]; simpa using hcs
    · have hpos : 0 < len := by
        rcases Nat.eq_zero_or_pos len with e | e
        · subst e; simp at h0
        · exact e
      obtain ⟨b, off, rfl, hc⟩ := ints_at hcell (by omega)
      refine ⟨b, off, rfl, trivial, ?_, fun i hi => ?_⟩
      · have := World.block_lt_of_cell? W _ (hc 0 (by omega)); simpa using this
      · rw [htl] at hi
        rw [hc i (by omega)]
        have hb := bounds_u32 (hwz (zs[i]'(by omega)) (List.getElem_mem _))
        rw [List.getD_eq_getElem?_getD, List.getD_eq_getElem?_getD, List.getElem?_map, List.getElem?_take_of_lt hi, List.getElem?_eq_getElem (by omega)]
        simp only [Option.map_some, Option.getD_some]
        rw [Int.toNat_of_nonneg hb.1]
    · intro d hd
      obtain ⟨z, hz1, rfl⟩ := List.mem_map.1 hd
      have hb := bounds_u32 (hwz z (List.mem_of_mem_take hz1))
      omega

/-- Two numbers: the document's, and the program's in boxes. -/
structure Two (w : World) (bx by' : Nat) (xv yv mv nv : Value) (M N : Nat) (W : World) : Prop where
  fr : Fresh w W
  hx : W.heap[bx]? = some (.cells #[xv] 26 (0, 0))
  hy : W.heap[by']? = some (.cells #[yv] 26 (0, 0))
  rm : Rn W mv M
  rn : Rn W nv N
  nx : Nm W xv (fitN M)
  ny : Nm W yv (fitN N)
  pw : Pw W
theorem Two.next {w : World} {bx by' : Nat} {xv yv mv nv : Value} {M N : Nat} {W W' : World} (h : Two w bx by' xv yv mv nv M N W) (hF : Fresh W W') : Two w bx by' xv yv mv nv M N W' :=
  ⟨h.fr.trans hF (fun _ _ e => e), hF.at h.hx (fun e => e), hF.at h.hy (fun e => e), h.rm.fresh hF, h.rn.fresh hF, h.nx.fresh hF, h.ny.fresh hF, h.pw.fresh hF⟩
theorem Two.cx {w : World} {bx by' : Nat} {xv yv mv nv : Value} {M N : Nat} {W : World} (h : Two w bx by' xv yv mv nv M N W) : W.cell? ⟨bx, 0, none⟩ = some xv := by rw [Lib.cell_of_heap h.hx]; rfl
theorem Two.cy {w : World} {bx by' : Nat} {xv yv mv nv : Value} {M N : Nat} {W : World} (h : Two w bx by' xv yv mv nv M N W) : W.cell? ⟨by', 0, none⟩ = some yv := by rw [Lib.cell_of_heap h.hy]; rfl
theorem Two.made {w w1 w2 : World} {xv yv mv nv : Value} {M N : Nat} (hT : Pw w) (h1 : Fresh w w1) (r1 : Rn w1 mv M) (n1 : Nm w1 xv (fitN M)) (h2 : Fresh (w1.alloc (.cells #[xv] 26)) w2) (r2 : Rn w2 nv N) (n2 : Nm w2 yv (fitN N)) :
    Two w w1.heap.size w2.heap.size xv yv mv nv M N (w2.alloc (.cells #[yv] 26)) := by
  have a1 : Fresh w1 (w1.alloc (.cells #[xv] 26)) := (Kept.refl _ _).alloc _
  have a2 : Fresh w2 (w2.alloc (.cells #[yv] 26)) := (Kept.refl _ _).alloc _
  have f1 : Fresh w1 (w2.alloc (.cells #[yv] 26)) := Kept.trans a1 (Kept.trans h2 a2 (fun _ _ e => e)) (fun _ _ e => e)
  have f0 : Fresh w (w2.alloc (.cells #[yv] 26)) := Kept.trans h1 f1 (fun _ _ e => e)
  exact ⟨f0, (Kept.trans h2 a2 (fun _ _ e => e)).at (heap_alloc_new w1 _) (fun e => e), heap_alloc_new w2 _, r1.fresh f1, r2.fresh a2, n1.fresh f1, n2.fresh a2, hT.fresh f0⟩
end Go.Proofs.YtdmjfmipalifpaaGreatDoor
