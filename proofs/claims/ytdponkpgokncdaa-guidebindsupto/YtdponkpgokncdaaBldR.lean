/-
  A slice of one whole array is built.
-/
import Derived.Test.YtdponkpgokncdaaGuc
namespace Go.Proofs.Ytdponkpgokncdaa
open Go.RowKit Go.Lib Go.Maps

theorem fill_fold : ∀ (l : List Value) (k : Nat) (b : Array Value) (pre : List Value), pre.length = k → b.toList.take k = pre → b.size = k + l.length →
    ((l.zipIdx k).foldl (fun (cs : Array Value) (x : Value × Nat) => cs.setIfInBounds (0 + x.2) x.1) b).toList = pre ++ l
  | [], k, b, pre, _, h2, h3 => by
    simp only [List.zipIdx_nil, List.foldl_nil, List.append_nil]
    rw [← h2, List.take_of_length_le (by simp at h3; simp [h3])]
  | x :: l, k, b, pre, h1, h2, h3 => by
    simp only [List.zipIdx_cons, List.foldl_cons]
    have h3' : b.size = k + (l.length + 1) := by simpa using h3
    rw [fill_fold l (k + 1) (b.setIfInBounds (0 + k) x) (pre ++ [x]) (by simp [h1]) ?_ (by simp; omega)]
    · simp
    · rw [Array.toList_setIfInBounds, Nat.zero_add, List.take_set, List.take_succ_eq_append_getElem (by simpa using (by omega : k < b.size)), h2]
      rw [List.set_append_right _ _ (by omega), h1, Nat.sub_self]
      rfl
theorem fill_one (c z : Array Value) (hc : c.size = 256) (hz : z.size = 256) (place : Nat → Option (Nat × Nat)) (hp : place 0 = some (0, 256)) : Instr.fill place z [(0, .agg c)] = some c := by
  have h := fill_fold c.toList 0 z [] rfl rfl (by simp [hc, hz])
  rw [List.nil_append] at h
  have e : c.zipIdx.foldl (fun (cs : Array Value) (x : Value × Nat) => cs.setIfInBounds (0 + x.2) x.1) z = c := by
    apply Array.ext'
    rw [← h, ← Array.foldl_toList, Array.toList_zipIdx]
  show (match place 0 with
    | none => none
    | some (off, size) => if (Value.agg c).cells.size ≠ size || off + (Value.agg c).cells.size > z.size then none else Instr.fill place ((Value.agg c).cells.zipIdx.foldl (fun cs (c, j) => cs.setIfInBounds (off + j) c) z) []) = _
  rw [hp]
  have hcc : (Value.agg c).cells = c := rfl
  simp only [hcc, hc, hz]
  exact congrArg some e
theorem run_buildRow (X : World) (c : Array Value) (hc : c.size = 256) : (Instr.buildSlice 88 1 #[(0, .agg c)]).run Try.prog X = .ok (.slice (some ⟨X.heap.size, 0, none⟩) 1 1) (X.alloc (.cells c 101)) := by
  obtain ⟨i0, z, hi0, hz0, hz1, hz2, hz3⟩ := arrParts
  unfold Instr.buildSlice
  rw [Sem.run_bind, run_underlying Try.underlying88 X]
  have hs : (sizeOf 101).run Try.prog X = .ok 256 X := by simp [sizeOf, typeInfo, hi0, hz1, Result.andThen]
  have hz : (zeroValue 101).run Try.prog X = .ok z X := by simp [zeroValue, typeInfo, hi0, hz0, Result.andThen]
  simp only [Result.andThen, Sem.run_bind, hs]
  rw [if_neg (by omega), if_neg (by omega)]
  simp only [Sem.run_bind, hz, Result.andThen, Sem.run_pure]
  rw [fill_one c _ hc (by simp) _ (by rfl)]
  simp only [Sem.run_bind, Sem.run_pure, newRow, newObj, Result.andThen]
  rfl
theorem wp_buildRow {o : Oper} {a : Act} {w : World} {K : Act → World → Prop} {Q : Exit → Act → World → Prop} {x : Operand} (ho : o.op = .buildSlice 88 1 #[(0, x)]) {c : Array Value} (hx : a.eval x = .agg c) (hc : c.size = 256)
    (h : K (a.put o.dst (.slice (some ⟨w.heap.size, 0, none⟩) 1 1)) (w.alloc (.cells c 101))) : o.wp Try.prog a w K Q := by
  unfold Oper.wp execOp
  have e : (#[((0 : Nat), x)] : Array (Nat × Operand)).map (fun p => (p.1, a.eval p.2)) = #[(0, Value.agg c)] := by simp [hx]
  simp only [ho]
  rw [e]
  simp only [Sem.run_bind, run_buildRow w c hc, Sem.run_pure, Result.andThen_ok]
  exact h
end Go.Proofs.Ytdponkpgokncdaa
