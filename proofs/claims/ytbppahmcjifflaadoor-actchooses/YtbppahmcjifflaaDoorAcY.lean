/-
  What is claimed of the weights of the chosen.
-/
import Derived.Test.YtbppahmcjifflaaDoorAcW
import Derived.Test.YtbppahmcjifflaaDoorRkN
namespace Go.Proofs.YtbppahmcjifflaaDoor
open Go.RowKit

theorem wtF_bound (zs : List Int) (o : List Nat) (ho : 1 ≤ o.length) {i : Nat} (hi : i < o.length) : 0 ≤ wtF zs o i ∧ wtF zs o i ≤ 131072 := by
  have h1 := wgF_bound zs o hi
  have h2 := wgF_bound zs o (show 0 < o.length by omega)
  have h3 := msF_nonneg zs o ho
  unfold wtF
  split <;> omega
/-- The greatest score comes first, so no weight is greater than the one ahead of it. -/
theorem wtF_falls (zs : List Int) (o : List Nat) (ho : 1 ≤ o.length) (hp : o.Pairwise (Bf (fun i => zs.getD i 0))) {i : Nat} (hi : i + 1 < o.length) : wtF zs o (i + 1) ≤ wtF zs o i := by
  have hS := (exS_bound zs o o.length).2.2 ho
  have hb : Bf (fun i => zs.getD i 0) (o.getD i 0) (o.getD (i + 1) 0) := by
    have := List.pairwise_iff_getElem.1 hp i (i + 1) (by omega) hi (by omega)
    rwa [List.getD_eq_getElem?_getD, List.getElem?_eq_getElem (show i < o.length by omega), List.getD_eq_getElem?_getD, List.getElem?_eq_getElem hi]
  have hle : zs.getD (o.getD (i + 1) 0) 0 ≤ zs.getD (o.getD i 0) 0 := by
    rcases hb with h | ⟨h, _⟩
    · have : zs.getD (o.getD (i + 1) 0) 0 < zs.getD (o.getD i 0) 0 := h
      omega
    · have : zs.getD (o.getD i 0) 0 = zs.getD (o.getD (i + 1) 0) 0 := h
      omega
  have he : exF zs o (i + 1) ≤ exF zs o i := exp2_mono (by omega)
  have hw : wgF zs o (i + 1) ≤ wgF zs o i := by
    unfold wgF
    exact Int.ediv_le_ediv (by omega) (by omega)
  have h3 := msF_nonneg zs o ho
  unfold wtF
  rw [if_neg (by omega)]
  split
  · rename_i e
    subst e
    omega
  · exact hw
/-- The sum of the first weights. -/
def swF (zs : List Int) (o : List Nat) (j : Nat) : Int := if j = 0 then 0 else 65536 - msF zs o j + msF zs o o.length
theorem swF_next (zs : List Int) (o : List Nat) (j : Nat) : swF zs o (j + 1) = swF zs o j + wtF zs o j := by
  have e : msF zs o (j + 1) = msF zs o j - wgF zs o j := rfl
  unfold swF wtF
  rw [if_neg (by omega), e]
  by_cases h : j = 0
  · subst h
    rw [if_pos rfl, if_pos rfl]
    have : msF zs o 0 = 65536 := rfl
    omega
  · rw [if_neg h, if_neg h]
    omega
theorem swF_all (zs : List Int) (o : List Nat) (ho : 1 ≤ o.length) : swF zs o o.length = 65536 := by unfold swF; rw [if_neg (by omega)]; omega
theorem swF_bound (zs : List Int) (o : List Nat) (ho : 1 ≤ o.length) (hl : o.length ≤ 1048576) {j : Nat} (hj : j ≤ o.length) : -1 ≤ swF zs o j ∧ swF zs o j ≤ 137438953472 := by
  have h1 := msF_le zs o j hj
  have h2 := msF_nonneg zs o ho
  unfold swF
  split <;> omega
theorem take_apart {o : List Nat} (hn : o.Nodup) {i j : Nat} (hi : i < o.length) (hj : j < i) : ¬ ((o.getD j 0 : Nat) : Int) = ((o.getD i 0 : Nat) : Int) := by
  intro e
  have e2 : o.getD j 0 = o.getD i 0 := by omega
  rw [List.getD_eq_getElem?_getD, List.getElem?_eq_getElem (show j < o.length by omega), List.getD_eq_getElem?_getD, List.getElem?_eq_getElem hi] at e2
  exact List.pairwise_iff_getElem.1 hn j i (by omega) hi hj e2
end Go.Proofs.YtbppahmcjifflaaDoor
