/-
  A region that draws its order, by an invariant: what holds whichever operations have come up.
-/
import Derived.Test.YtdponkpgokncdaaBase
import Derived.Orders
import Derived.RegionTactic
namespace Go.Proofs.Ytdponkpgokncdaa

/-- Has an operation come up? -/
def Up (l : Array Bool) (i : Nat) : Prop := l.getD i false = true
theorem up_set_same {l : Array Bool} {i : Nat} (h : i < l.size) : Up (l.setIfInBounds i true) i := by
  unfold Up
  simp [Array.getD_eq_getD_getElem?, h]
theorem up_set_ne {l : Array Bool} {i j : Nat} (h : i ≠ j) : Up (l.setIfInBounds i true) j ↔ Up l j := by
  unfold Up
  rw [getD_set_ne false h]
theorem not_up0 (n i : Nat) : ¬ Up (Array.replicate n false) i := by
  unfold Up
  simp [Array.getD_eq_getD_getElem?, Array.getElem?_replicate]
  split <;> simp
/-- How many have not come up. -/
def left (l : Array Bool) : Nat := l.toList.count false
theorem left_set {l : Array Bool} {i : Nat} (h : l.getD i true = false) : left (l.setIfInBounds i true) + 1 = left l := by
  have hlt : i < l.size := by
    rcases Nat.lt_or_ge i l.size with e | e
    · exact e
    · simp [Array.getD_eq_getD_getElem?, Array.getElem?_eq_none e] at h
  have he : l.toList[i]'(by simpa using hlt) = false := by
    simp [Array.getD_eq_getD_getElem?, Array.getElem?_eq_getElem hlt] at h
    simpa using h
  unfold left
  have hp : 0 < l.toList.count false := List.count_pos_iff.2 (by rw [← he]; exact List.getElem_mem _)
  rw [Array.toList_setIfInBounds, List.count_set (by simpa using hlt), he, if_pos (by rfl), if_neg (by decide)]
  omega
section
variable {P : Program} {md : Region.Mode} {ops : Array Oper} {Q : Exit → Act → World → Prop}
/-- Where nothing may come up, all has. -/
theorem all_up (hb : ∀ (i : Nat) (o : Oper), ops[i]? = some o → ∀ e ∈ o.after, Region.binds md e = true → e.on < i) {l : Array Bool} (hl : l.size = ops.size) (hr : Region.ready md ops l = []) : ∀ n i, i < n → i < ops.size → Up l i := by
  intro n
  induction n with
  | zero => intro i hi; omega
  | succ n ih =>
    intro i hi hs
    cases hf : l.getD i false with
    | true => exact hf
    | false =>
      exfalso
      have ho : ops[i]? = some ops[i] := Array.getElem?_eq_getElem hs
      have hm : i ∈ Region.ready md ops l := by
        rw [mem_ready]
        refine ⟨?_, ops[i], ho, fun e he hbd => ?_⟩
        · have hlt : i < l.size := by omega
          simp [Array.getD_eq_getD_getElem?, Array.getElem?_eq_getElem hlt] at hf ⊢
          exact hf
        · have := hb i _ ho e he hbd
          exact ih e.on (by omega) (by omega)
      rw [hr] at hm
      cases hm
theorem wpAny_inv (I : Array Bool → Act → World → Prop) (hb : ∀ (i : Nat) (o : Oper), ops[i]? = some o → ∀ e ∈ o.after, Region.binds md e = true → e.on < i)
    (hs : ∀ (l : Array Bool) (a : Act) (w : World), l.size = ops.size → I l a w → ∀ (i : Nat) (o : Oper), ops[i]? = some o → i < ops.size → ¬ Up l i → (∀ e ∈ o.after, Region.binds md e = true → Up l e.on) →
      ∀ K : Act → World → Prop, (∀ a' w', I (l.setIfInBounds i true) a' w' → K a' w') → if Region.wanted o (yielded ops a.tmps) = true then Oper.wp P o a w K Q else K (a.put o.dst undef) w)
    (he : ∀ (l : Array Bool) (a : Act) (w : World), I l a w → (∀ i, i < ops.size → Up l i) → Q .normal a w) :
    ∀ (fuel : Nat) (l : Array Bool) (a : Act) (w : World), l.size = ops.size → left l ≤ fuel → I l a w → wpAny P md ops Q fuel l a w := by
  have hend : ∀ (l : Array Bool) (a : Act) (w : World), l.size = ops.size → I l a w → Region.ready md ops l = [] → Q .normal a w := fun l a w hl hI hr => he l a w hI (fun i hi => all_up hb hl hr (i + 1) i (by omega) hi)
  intro fuel
  induction fuel with
  | zero =>
    intro l a w hl hc hI
    have hr : Region.ready md ops l = [] := by
      rw [List.eq_nil_iff_forall_not_mem]
      intro j hj
      have := left_set (mem_ready.1 hj).1
      omega
    exact ⟨hr, hend l a w hl hI hr⟩
  | succ fuel ih =>
    intro l a w hl hc hI
    refine ⟨hend l a w hl hI, fun i hi => ?_⟩
    obtain ⟨h1, o, ho, h2⟩ := mem_ready.1 hi
    have hlt : i < ops.size := (Array.getElem?_eq_some_iff.1 ho).1
    have hn : ¬ Up l i := by
      intro e
      have hlt' : i < l.size := by omega
      unfold Up at e
      simp [Array.getD_eq_getD_getElem?, Array.getElem?_eq_getElem hlt'] at h1 e
      rw [h1] at e
      cases e
    refine wpOp_step ho (fun K hK => hs l a w hl hI i o ho hlt hn (fun e he hbd => h2 e he hbd) K (fun a' w' hI' => hK a' w' (ih _ a' w' (by simpa using hl) ?_ hI')))
    have := left_set h1
    omega
theorem left_none (n : Nat) : left (Array.replicate n false) = n := by simp [left]
/-- Each waits for earlier ones alone. -/
def backB (ops : Array Oper) : Bool := (List.range ops.size).all fun i => ((ops[i]?).map fun o => o.after.all fun e => !Region.binds .any e || decide (e.on < i)).getD true
theorem back_of (h : backB ops = true) : ∀ (i : Nat) (o : Oper), ops[i]? = some o → ∀ e ∈ o.after, Region.binds .any e = true → e.on < i := by
  intro i o ho e he hbd
  have hlt : i < ops.size := (Array.getElem?_eq_some_iff.1 ho).1
  have h1 := List.all_eq_true.1 h i (List.mem_range.2 hlt)
  rw [ho] at h1
  simp only [Option.map_some, Option.getD_some, Array.all_eq_true_iff_forall_mem, Bool.or_eq_true, Bool.not_eq_true', decide_eq_true_eq] at h1
  exact (h1 e he).resolve_left (by rw [hbd]; decide)
/-- The whole region. -/
theorem region_inv {id : Nat} {a : Act} {w : World} (hm : P.follows .mixedOrders = true) (I : Array Bool → Act → World → Prop) (hb : backB ops = true)
    (hs : ∀ (l : Array Bool) (a : Act) (w : World), l.size = ops.size → I l a w → ∀ (i : Nat) (o : Oper), ops[i]? = some o → i < ops.size → ¬ Up l i → (∀ e ∈ o.after, Region.binds .any e = true → Up l e.on) →
      ∀ K : Act → World → Prop, (∀ a' w', I (l.setIfInBounds i true) a' w' → K a' w') → if Region.wanted o (yielded ops a.tmps) = true then Oper.wp P o a w K Q else K (a.put o.dst undef) w)
    (h0 : I (Array.replicate ops.size false) a w.drew)
    (he : ∀ (l : Array Bool) (a : Act) (w : World), I l a w → (∀ i, i < ops.size → Up l i) → Q .normal a w) : (Code.region id ops true).wp P Q a w :=
  wp_region_any hm (wpAny_inv I (back_of hb) hs he ops.size _ a _ (by simp) (by rw [left_none]; exact Nat.le_refl _) h0)
end
end Go.Proofs.Ytdponkpgokncdaa
