/-
  A map is made; maps that tell the same.
-/
import Derived.Test.YtdponkpgokncdaaVomT
namespace Go.Proofs.Ytdponkpgokncdaa
open Go.RowKit Go.Lib Go.Maps

theorem run_mm {t k e : TypeId} (ht : Try.prog.underlying t = some (.map k e)) (n : Int) (w : World) : (Instr.makeMap t (some (.int .i64 n))).run Try.prog w = .ok (.map (some w.heap.size)) (w.alloc (.map #[] 0)) := by
  simp [Instr.makeMap, run_underlying ht, asInt, Result.andThen]
  rfl
theorem KM.congr {k : TypeId} {w : World} {M n : Nat} {f g : Value → Option Int} (h : KM k w M n f) (e : ∀ v, f v = g v) : KM k w M n g := by
  have : f = g := funext e
  rw [← this]; exact h
theorem rkV_zero (M : List Mg) (v : Value) : rkV M 0 v = none := by
  unfold rkV
  split
  · rfl
  · rfl
end Go.Proofs.Ytdponkpgokncdaa
