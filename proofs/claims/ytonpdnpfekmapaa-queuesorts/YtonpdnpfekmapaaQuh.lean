/-
  A run less: slices.Delete, on the runs; a run's copy: slices.Clone.
-/
import Derived.Test.YtonpdnpfekmapaaQug
import Derived.Shelf.SlicesE.Clone
namespace Go.Proofs.Ytonpdnpfekmapaa
open Go.RowKit Go.Lib Go.Shelf

def renDR : Ren := ⟨fun | 45 => 104 | n => n, fun | 0 => 0 | 3 => 3 | 4 => 4 | 22 => 95 | 23 => 162 | n => n, fun | n => n⟩
theorem laysDR : SlLaysE.n45 Try.prog renDR := {
  mixed := by kernel_rfl
  f45 := ⟨Try.f104.name, by kernel_rfl, Try.func104.trans (congrArg some (by kernel_rfl))⟩
  t0 := by kernel_rfl
  a0 := fun _ => by kernel_rfl
  z0 := fun _ => by kernel_rfl
  v0 := fun _ => by kernel_rfl
  t3 := Try.underlying3
  a3 := Try.isAgg3
  z3 := Try.sizeOf3
  v3 := Try.zeroValue3
  t4 := Try.underlying4
  a4 := Try.isAgg4
  z4 := Try.sizeOf4
  v4 := Try.zeroValue4
  t22 := Try.underlying95
  a22 := Try.isAgg95
  z22 := Try.sizeOf95
  v22 := Try.zeroValue95
  a23 := Try.isAgg162
  z23 := Try.sizeOf162 }

/-- slices.Delete, on the runs. -/
theorem delR_any (b n cap i : Nat) (cs : List Value) (w : World) (hown : w.ownsRow 0 162 1 (.slice (some ⟨b, 0, none⟩) n cap) n cs) (hi : i < n) (h1c : ∀ v ∈ cs, v.oneCell' = true) :
    Calls Try.prog 104 #[.slice (some ⟨b, 0, none⟩) n cap, nV i, .int .i64 ((i : Int) + 1)] w fun r w' =>
      r = .returned (.slice (some ⟨b, 0, none⟩) (n - 1) cap) ∧ w'.ownsRow 0 162 1 (.slice (some ⟨b, 0, none⟩) (n - 1) cap) (n - 1) (cs.take i ++ cs.drop (i + 1)) ∧ Kept (fun k => k = b) w w' := by
  haveI : Inhabited V1 := ⟨⟨.bool false, rfl⟩⟩
  obtain ⟨hcl, h2⟩ := hown
  rw [Nat.mul_one] at hcl
  rcases h2 with ⟨e, _⟩ | ⟨g, cap', cur, hv, _, hh, hnc, hcm, hsz, htk⟩
  · cases e
  injection hv with e1 _ e3
  injection e1 with e1
  injection e1 with e1
  subst e1
  subst e3
  rw [Nat.mul_one] at hsz htk
  obtain ⟨d, hd⟩ : ∃ d : List V1, d.map (fun x => x.1) = cs := ⟨cs.attach.map (fun x => ⟨x.1, h1c x.1 x.2⟩), by simp⟩
  have hdl : d.length = n := by rw [← hcl, ← hd, List.length_map]
  have hcs : ∀ j v, cs[j]? = some v → w.cell? ⟨b, j, none⟩ = some v := fun j v hj => by
    simp only [World.cell?, hh]
    rw [← htk, List.getElem?_take] at hj
    split at hj
    · simpa using hj
    · cases hj
  have hH : Sort.Holds (fun x : V1 => x.1) w b 0 d.toArray := fun j hj => by
    rw [Nat.zero_add]
    refine ⟨hcs j _ ?_, Lib.frozen_of_heap hh j⟩
    have hj' : j < d.length := by simpa using hj
    rw [← hd, List.getElem?_map, List.getElem?_eq_getElem hj', getElem!_pos d.toArray j hj]
    simp
  have hz : ∀ w, (zeroValue (renDR.t 23)).run Try.prog w = .ok (.slice none 0 0) w := Try.zeroValue162
  obtain ⟨i0, hi0, hz0, hzs, hzb⟩ := info_parts (show (Try.prog.info? 162).map (fun i => (i.zero, i.size, i.bytes)) = some (some (.slice none 0 0), 1, 24) by kernel_rfl)
  have hx := AnyE.slices_Delete laysDR (fun x : V1 => x.1) v1 ⟨.slice none 0 0, rfl⟩ hz i0 hi0 hzs b 0 cap i (i + 1) d.toArray w hH (by simpa [hdl] using hnc) (by unfold maxLen at hcm; omega) (by omega) (by simp [hdl]; omega)
  rw [show d.toArray.size = n by simpa using hdl] at hx
  rw [show ((i + 1 : Nat) : Int) = (i : Int) + 1 from rfl, show i + 1 - i = 1 by omega] at hx
  refine hx.mono ?_
  rintro r w' ⟨rfl, q, rfl⟩
  refine ⟨rfl, ⟨by simp [hcl]; omega, .inr ⟨b, cap, _, rfl, Nat.zero_le _, heap_putRow q _ hh (by simp [hdl]; omega), by omega, hcm, ?_, ?_⟩⟩, kept_putRow _ _ _⟩
  · simp [hdl]; omega
  · rw [Nat.mul_one, List.toList_toArray]
    have e1 : (List.take i d ++ List.drop (i + 1) d ++ List.replicate 1 (⟨.slice none 0 0, rfl⟩ : V1)).map (fun x => x.1) = cs.take i ++ cs.drop (i + 1) ++ [.slice none 0 0] := by
      rw [List.map_append, List.map_append, List.map_take, List.map_drop, hd]
      rfl
    rw [e1, List.append_assoc _ [_], List.take_append_of_le_length (by simp; omega), List.take_of_length_le (by simp; omega)]

def renCE : Ren := ⟨fun | 41 => 133 | n => n, fun | 0 => 0 | 3 => 3 | 4 => 4 | 22 => 162 | 23 => 130 | n => n, fun | n => n⟩
theorem laysCE : SlLaysE0.n41 Try.prog renCE := {
  mixed := by kernel_rfl
  f41 := ⟨Try.f133.name, by kernel_rfl, Try.func133.trans (congrArg some (by kernel_rfl))⟩
  t4 := Try.underlying4
  a4 := Try.isAgg4
  z4 := Try.sizeOf4
  v4 := Try.zeroValue4
  t22 := Try.underlying162
  a22 := Try.isAgg162
  z22 := Try.sizeOf162
  v22 := Try.zeroValue162 }
/-- slices.Clone, on a part of a run. -/
theorem cloneE_any (b o n c : Nat) (news : List Value) (w : World) (hl : news.length = n) (hn : n ≤ 1048576) (hc : ∀ j u, news[j]? = some u → w.cell? ⟨b, o + j, none⟩ = some u) (h1 : ∀ u ∈ news, u.oneCell' = true) :
    Calls Try.prog 133 #[.slice (some ⟨b, o, none⟩) n c] w fun r w' => ∃ v', r = .returned v' ∧ w'.ownsRow w.heap.size 130 1 v' n news ∧ v' ≠ .slice none 0 0 ∧ Fresh w w' := by
  haveI : Inhabited V1 := ⟨⟨.bool false, rfl⟩⟩
  obtain ⟨i0, hi0, hz0, hzs, hzb⟩ := info_parts (show (Try.prog.info? 130).map (fun i => (i.zero, i.size, i.bytes)) = some (some (.pointer none), 1, 8) by kernel_rfl)
  refine (AnyE.slices_Clone laysCE i0 _ 1 8 hi0 hz0 hzs hzb rfl (by omega) Try.sizeOf130 b o n c news w (by omega) (by unfold maxLen; omega) (by omega) hc h1).mono ?_
  rintro r w' ⟨v', rfl, h2, h3, h4⟩
  exact ⟨v', rfl, h2, h3, Kept.ofBelow h4 (fun i hi e => by omega)⟩
end Go.Proofs.Ytonpdnpfekmapaa
