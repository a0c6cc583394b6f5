/-
  An element less in a row: slices.Delete, on a run and on the runs.
-/
import Derived.Test.YtonpdnpfekmapaaQuc
import Derived.Shelf.SlicesE.Delete
namespace Go.Proofs.Ytonpdnpfekmapaa
open Go.RowKit Go.Lib Go.Shelf

/-- Values of one cell. -/
abbrev V1 := { v : Value // v.oneCell' = true }
theorem v1 : OneCell (fun x : V1 => x.1) := fun x => x.2

def renDE : Ren := ⟨fun | 45 => 103 | n => n, fun | 0 => 0 | 3 => 3 | 4 => 4 | 22 => 162 | 23 => 130 | n => n, fun | n => n⟩
theorem laysDE : SlLaysE.n45 Try.prog renDE := {
  mixed := by kernel_rfl
  f45 := ⟨Try.f103.name, by kernel_rfl, Try.func103.trans (congrArg some (by kernel_rfl))⟩
  t0 := by kernel_rfl
  a0 := fun _ => by kernel_rfl
  z0 := fun _ => by kernel_rfl
  v0 := fun _ => by kernel_rfl
  t3 := Try.underlying3
  a3 := Try.isAgg3
  z3 := Try.sizeOf3
  v3 := Try.zeroValue3
  t4 := Try.underlying4
  a4 := Try.isAgg4
  z4 := Try.sizeOf4
  v4 := Try.zeroValue4
  t22 := Try.underlying162
  a22 := Try.isAgg162
  z22 := Try.sizeOf162
  v22 := Try.zeroValue162
  a23 := Try.isAgg130
  z23 := Try.sizeOf130 }

/-- The blocks behind the library's words. -/
theorem heap_putRow [Inhabited V1] {w : World} {b : Nat} {T : TypeId} {cur : Array Value} (q : Nat) (d : Array V1) (hh : w.heap[b]? = some (.cells cur T (0, 0))) (hd : d.size ≤ cur.size) :
    (Sort.putRow (fun x : V1 => x.1) (Sort.ahead w q) b 0 d).heap[b]? = some (.cells ((d.toList.map (fun x => x.1)) ++ cur.toList.drop d.size).toArray T (0, 0)) := by
  have h1 : (Sort.ahead w q).heap[b]? = some (.cells cur T (0, 0)) := hh
  unfold Sort.putRow Sort.mapBlock
  simp only [Array.getElem?_modify, h1, if_true, Option.map_some, Sort.onCells]
  congr 2
  unfold Sort.putCells
  apply Array.ext
  · simp; omega
  · intro j h2 h3
    simp only [Array.getElem_mapIdx, Nat.zero_add, Nat.zero_le, true_and, Nat.sub_zero]
    by_cases hj : j < d.size
    · rw [if_pos hj]
      simp [List.getElem_append_left, hj]
    · rw [if_neg hj]
      simp [List.getElem_append_right, show d.size ≤ j by omega, show d.size + (j - d.size) = j by omega]
theorem kept_putRow [Inhabited V1] {w : World} (b q : Nat) (d : Array V1) : Kept (fun k => k = b) w (Sort.putRow (fun x : V1 => x.1) (Sort.ahead w q) b 0 d) := by
  refine ⟨rfl, rfl, rfl, ?_, fun k hk hn => ?_⟩
  · simp [Sort.putRow, Sort.mapBlock, Sort.ahead]
  · have : ¬ b = k := fun e => hn e.symm
    simp [Sort.putRow, Sort.mapBlock, Sort.ahead, Array.getElem?_modify, this]

/-- slices.Delete, on a run. -/
theorem delE_any (b n cap i : Nat) (cs : List Value) (w : World) (hown : w.ownsRow 0 130 1 (.slice (some ⟨b, 0, none⟩) n cap) n cs) (hi : i < n) (h1c : ∀ v ∈ cs, v.oneCell' = true) :
    Calls Try.prog 103 #[.slice (some ⟨b, 0, none⟩) n cap, nV i, .int .i64 ((i : Int) + 1)] w fun r w' =>
      r = .returned (.slice (some ⟨b, 0, none⟩) (n - 1) cap) ∧ w'.ownsRow 0 130 1 (.slice (some ⟨b, 0, none⟩) (n - 1) cap) (n - 1) (cs.take i ++ cs.drop (i + 1)) ∧ Kept (fun k => k = b) w w' := by
  haveI : Inhabited V1 := ⟨⟨.bool false, rfl⟩⟩
  obtain ⟨hcl, h2⟩ := hown
  rw [Nat.mul_one] at hcl
  rcases h2 with ⟨e, _⟩ | ⟨g, cap', cur, hv, _, hh, hnc, hcm, hsz, htk⟩
  · cases e
  injection hv with e1 _ e3
  injection e1 with e1
  injection e1 with e1
  subst e1
  subst e3
  rw [Nat.mul_one] at hsz htk
  obtain ⟨d, hd⟩ : ∃ d : List V1, d.map (fun x => x.1) = cs := ⟨cs.attach.map (fun x => ⟨x.1, h1c x.1 x.2⟩), by simp⟩
  have hdl : d.length = n := by rw [← hcl, ← hd, List.length_map]
  have hcs : ∀ j v, cs[j]? = some v → w.cell? ⟨b, j, none⟩ = some v := fun j v hj => by
    simp only [World.cell?, hh]
    rw [← htk, List.getElem?_take] at hj
    split at hj
    · simpa using hj
    · cases hj
  have hH : Sort.Holds (fun x : V1 => x.1) w b 0 d.toArray := fun j hj => by
    rw [Nat.zero_add]
    refine ⟨hcs j _ ?_, Lib.frozen_of_heap hh j⟩
    have hj' : j < d.length := by simpa using hj
    rw [← hd, List.getElem?_map, List.getElem?_eq_getElem hj', getElem!_pos d.toArray j hj]
    simp
  have hz : ∀ w, (zeroValue (renDE.t 23)).run Try.prog w = .ok (.pointer none) w := Try.zeroValue130
  obtain ⟨i0, hi0, hz0, hzs, hzb⟩ := info_parts (show (Try.prog.info? 130).map (fun i => (i.zero, i.size, i.bytes)) = some (some (.pointer none), 1, 8) by kernel_rfl)
  have hx := AnyE.slices_Delete laysDE (fun x : V1 => x.1) v1 ⟨.pointer none, rfl⟩ hz i0 hi0 hzs b 0 cap i (i + 1) d.toArray w hH (by simpa [hdl] using hnc) (by unfold maxLen at hcm; omega) (by omega) (by simp [hdl]; omega)
  rw [show d.toArray.size = n by simpa using hdl] at hx
  rw [show ((i + 1 : Nat) : Int) = (i : Int) + 1 from rfl, show i + 1 - i = 1 by omega] at hx
  refine hx.mono ?_
  rintro r w' ⟨rfl, q, rfl⟩
  refine ⟨rfl, ⟨by simp [hcl]; omega, .inr ⟨b, cap, _, rfl, Nat.zero_le _, heap_putRow q _ hh (by simp [hdl]; omega), by omega, hcm, ?_, ?_⟩⟩, kept_putRow _ _ _⟩
  · simp [hdl]; omega
  · rw [Nat.mul_one, List.toList_toArray]
    have e1 : (List.take i d ++ List.drop (i + 1) d ++ List.replicate 1 (⟨.pointer none, rfl⟩ : V1)).map (fun x => x.1) = cs.take i ++ cs.drop (i + 1) ++ [.pointer none] := by
      rw [List.map_append, List.map_append, List.map_take, List.map_drop, hd]
      rfl
    rw [e1, List.append_assoc _ [_], List.take_append_of_le_length (by simp; omega), List.take_of_length_le (by simp; omega)]
end Go.Proofs.Ytonpdnpfekmapaa
