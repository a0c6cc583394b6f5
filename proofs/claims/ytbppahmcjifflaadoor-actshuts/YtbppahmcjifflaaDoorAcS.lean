/-
  Numbers of ActShuts: where the bend is 0 nothing goes through.
-/
import Derived.Test.YtbppahmcjifflaaDoorAcM
import Derived.Test.YtbppahmcjifflaaDoorAcb
namespace Go.Proofs.YtbppahmcjifflaaDoor
open Go.RowKit

/-- A bend of 0 throughout. -/
def zl (n : Nat) : List Int := List.replicate n 0
theorem zl_get (n i : Nat) : (zl n).getD i 0 = 0 := by
  unfold zl
  rw [List.getD_eq_getElem?_getD, List.getElem?_replicate]
  split <;> rfl
theorem gaF_zero (n : Nat) (g u : List Int) (i : Nat) : gaF (zl n) g u i = 0 := by
  unfold gaF
  rw [zl_get, Int.zero_mul, rdQ_zero]
  rfl
theorem gaL_zero {n : Nat} {g u : List Int} : ∀ z ∈ gaL (zl n) g u, z = 0 := by
  intro z hz
  unfold gaL at hz
  split at hz
  · obtain ⟨i, _, rfl⟩ := mkL_mem hz
    exact gaF_zero n g u i
  · cases hz
theorem dotN_zero : ∀ (a x : List Int), (∀ z ∈ x, z = 0) → dotN a x = 0
  | [], _, _ => rfl
  | _ :: _, [], _ => rfl
  | y :: a, z :: x, h => by
    show y * z + dotN a x = 0
    rw [h z (List.mem_cons_self ..), dotN_zero a x (fun q hq => h q (List.mem_cons_of_mem _ hq)), Int.mul_zero]
    rfl
theorem tL_zero {w x : List Int} {c : Int} (h : ∀ z ∈ x, z = 0) : ∀ z ∈ tL w c x, z = 0 := by
  intro z hz
  unfold tL at hz
  split at hz
  · unfold timesN at hz
    obtain ⟨r, _, rfl⟩ := List.mem_map.1 hz
    exact dotN_zero _ _ h
  · cases hz
theorem mdL_zero {m : Mid} {n : Nat} {h : List Int} : ∀ z ∈ mdL m (zl n) h, z = 0 := by
  intro z hz
  unfold mdL at hz
  split at hz
  · cases hz
  · split at hz
    · cases hz
    · split at hz
      · cases hz
      · obtain ⟨y, hy, rfl⟩ := sL_mem hz
        rw [tL_zero (gaL_zero) y hy, rdQ_zero]
theorem getD_zero {l : List Int} (h : ∀ z ∈ l, z = 0) (i : Nat) : l.getD i 0 = 0 := by
  rw [List.getD_eq_getElem?_getD]
  cases e : l[i]? with
  | none => rfl
  | some z => exact h z (List.mem_of_getElem? e)
theorem cut_one {l : List Int} {j : Nat} (h : j < l.length) : (l.drop j).take 1 = [l.getD j 0] := by
  rw [List.drop_eq_getElem_cons h, getD_getElem h]
  rfl
/-- One place of Gate, alone. -/
theorem gaL_one {b g u : List Int} {i : Nat} (hb : b.length = 256) : gaL b [g.getD i 0] [u.getD i 0] = [gaF b g u i] := by
  rw [gaL_ok (by rw [hb]; rfl)]
  rfl
end Go.Proofs.YtbppahmcjifflaaDoor
