/-
  A state is added to a machine.
-/
import Derived.Test.YtdponkpgokncdaaGua
import Derived.Test.YtdponkpgokncdaaOwA
import Derived.Deep.WholeRow
import Derived.Laws.Alloc2
namespace Go.Proofs.Ytdponkpgokncdaa
open Go.RowKit Go.Lib Go.Maps

theorem boolInfo : (Try.prog.info? 4).map (fun i => (i.zero, i.size, i.bytes)) = some (some (.bool false), 1, 1) := by kernel_rfl
theorem arrSize : (Try.prog.info? 101).map (·.size) = some 256 := by kernel_rfl
theorem arrInfo : (Try.prog.info? 101).map (fun i => (i.zero.map (fun v => v.cells.size), i.size, i.bytes)) = some (some 256, 256, 512) := by kernel_rfl
theorem arrZero : ∀ w, (zeroValue 101).run Try.prog w = .ok (.agg (Array.replicate 256 (.int .i16 0))) w := by intro w; kernel_rfl
/-- One truth value behind a row of one's own. -/
theorem pushB (X : World) (B : Nat) (v : Value) (A : List Bool) (a : Bool) (hown : X.ownsRow B 4 1 v A.length (A.map Value.bool)) (hj : A.length + 1 ≤ 1000000) (hB : B ≤ X.heap.size) :
    ∃ v' X', (Builtin.append_ #[22, 22] 22 #[v, .slice (some ⟨X.heap.size, 0, none⟩) 1 1]).run Try.prog (X.alloc (.cells #[.bool a] 4)) = .ok v' X' ∧
      X'.ownsRow B 4 1 v' (A.length + 1) ((A ++ [a]).map Value.bool) ∧ Kept (fun b => v.ownBlock = some b) X X' := by
  obtain ⟨i0, hi0, hz0, hz1, hz2⟩ := info_parts boolInfo
  have hY : (X.alloc (.cells #[.bool a] 4)).ownsRow B 4 1 v A.length (A.map Value.bool) := owns_kept hown ((Kept.refl (fun _ => False) X).alloc _) (fun _ _ e => e)
  obtain ⟨v', w', hrun, ho, hg, _, hb⟩ := run_append_own_at (P := Try.prog) (X.alloc (.cells #[.bool a] 4)) B 22 22 4 i0 _ 1 1 Try.underlying22 hi0 hz0 hz1 hz2 rfl (by omega) _ A.length _ hY ⟨X.heap.size, 0, none⟩ 1 1 [.bool a] rfl (fun q u hq => cell_one_new X (.bool a) 4 q u hq) (fun u hu => by simp at hu; subst hu; rfl) (by unfold maxLen; omega) (by omega) (by simp; omega)
  refine ⟨v', w', hrun, ?_, ((Kept.refl (fun b => v.ownBlock = some b) X).alloc _).grown hg (fun q _ e => e)⟩
  rw [List.map_append]
  exact ho
theorem arrParts : ∃ i0 z, Try.prog.info? 101 = some i0 ∧ i0.zero = some z ∧ i0.size = 256 ∧ i0.bytes = 512 ∧ z.cells.size = 256 := by
  have h := arrInfo
  cases hi : Try.prog.info? 101 with
  | none => rw [hi] at h; cases h
  | some i0 =>
    rw [hi] at h
    simp only [Option.map_some, Option.some.injEq, Prod.mk.injEq] at h
    obtain ⟨h1, h2, h3⟩ := h
    cases hz : i0.zero with
    | none => rw [hz] at h1; cases h1
    | some z =>
      rw [hz] at h1
      simp only [Option.map_some, Option.some.injEq] at h1
      exact ⟨i0, z, rfl, hz, h2, h3, h1⟩
/-- One row of steps behind the others. -/
theorem pushS (X : World) (B : Nat) (v : Value) (n : Nat) (f : Nat → Nat → Int) (hown : X.ownsRow B 101 256 v n (flS f n)) (hj : n + 1 ≤ 1000) (hB : B ≤ X.heap.size) (c : Array Value) (hc : c.toList = rowS f n) :
    ∃ v' X', (Builtin.append_ #[88, 88] 88 #[v, .slice (some ⟨X.heap.size, 0, none⟩) 1 1]).run Try.prog (X.alloc (.cells c 101)) = .ok v' X' ∧
      X'.ownsRow B 101 256 v' (n + 1) (flS f (n + 1)) ∧ Kept (fun b => v.ownBlock = some b) X X' := by
  obtain ⟨i0, z, hi0, hz0, hz1, hz2, hz3⟩ := arrParts
  have hY : (X.alloc (.cells c 101)).ownsRow B 101 256 v n (flS f n) := owns_kept hown ((Kept.refl (fun _ => False) X).alloc _) (fun _ _ e => e)
  obtain ⟨v', w', hrun, ho, hg, _, hb⟩ := run_append_own_at (P := Try.prog) (X.alloc (.cells c 101)) B 88 88 101 i0 z 256 512 Try.underlying88 hi0 hz0 hz1 hz2 hz3 (by omega) _ n _ hY ⟨X.heap.size, 0, none⟩ 1 1 (rowS f n) (rowS_len f n) (fun q u hq => by
      rw [Addr.add_lit, Nat.zero_add, World.cell?_alloc_new, ← Array.getElem?_toList, hc]
      exact hq) (fun u hu => by unfold rowS at hu; rw [List.mem_map] at hu; obtain ⟨_, _, rfl⟩ := hu; rfl) (by unfold maxLen; omega) (by omega) (by simp; omega)
  exact ⟨v', w', hrun, ho, ((Kept.refl (fun b => v.ownBlock = some b) X).alloc _).grown hg (fun q _ e => e)⟩
end Go.Proofs.Ytdponkpgokncdaa
