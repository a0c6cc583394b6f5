/-
  A matrix below another one; a row asked twice; what VecBatches wants of memory.
-/
import Derived.Test.YtjffiojjjmecgaaVcm
import Derived.Test.YtjffiojjjmecgaaVcg
namespace Go.Proofs.Ytjffiojjjmecgaa
open Go.RowKit Go.Lib Go.Maps

theorem part_left {zs ns : List Int} {k r R : Nat} (h : zs.length = R * k) (hr : r < R) : part (zs ++ ns) k r = part zs k r := by
  have h1 := Nat.mul_le_mul_right k (show r + 1 ≤ R from hr)
  rw [Nat.add_mul, Nat.one_mul] at h1
  unfold part
  rw [List.drop_append_of_le_length (by omega), List.take_append_of_le_length (by rw [List.length_drop]; omega)]
theorem part_right {zs ns : List Int} {k r R : Nat} (h : zs.length = R * k) : part (zs ++ ns) k (R + r) = part ns k r := by
  unfold part
  rw [Nat.add_mul, ← h, List.drop_append, List.drop_eq_nil_of_le (by omega), List.nil_append, Nat.add_sub_cancel_left]
theorem timesN_append {zs ns : List Int} {k R S : Nat} (hk : 1 ≤ k) (h : zs.length = R * k) (h2 : ns.length = S * k) (x : List Int) : timesN (zs ++ ns) k x = timesN zs k x ++ timesN ns k x := by
  rw [timesN_rows (R := R + S) (by rw [List.length_append, h, h2, Nat.add_mul]) hk, timesN_rows h hk, timesN_rows h2 hk, List.range_add, List.map_append, List.map_map]
  congr 1
  · apply List.map_congr_left
    intro r hr
    rw [part_left h (by simpa using hr)]
  · apply List.map_congr_left
    intro r _
    show dotN (part (zs ++ ns) k (R + r)) x = _
    rw [part_right h]
theorem tL_ok {zs x : List Int} {k R : Nat} (hm : zs.length ≤ 1048576) (hk : 1 ≤ k) (hR : zs.length = R * k) (hx : x.length = k) : tE zs k x = 0 ∧ tL zs k x = timesN zs k x ∧ (timesN zs k x).length = R := by
  have h0 := (mE_ok hm hk hR).1
  exact ⟨tE_ok h0 (by omega), by unfold tL; rw [if_pos (tE_ok h0 (by omega)), Int.toNat_natCast], by rw [timesN_rows hR hk]; simp⟩
/-- A row asked twice. -/
theorem twice (zs : List Int) (c : Int) (x : List Int) : bB zs c [x, x] = tE zs c x ∧ (tE zs c x = 0 → bL zs c [x, x] = [tL zs c x, tL zs c x]) := by
  by_cases h0 : mE zs c = 0
  · by_cases hx : (x.length : Int) = c
    · have ho : odd c x = false := by unfold odd; simpa using hx
      have e : bB zs c [x, x] = 0 := bB_ok h0 (by simp [ho])
      exact ⟨by rw [e, tE_ok h0 hx], fun _ => by rw [bL_ok e]; rfl⟩
    · have ho : odd c x = true := by unfold odd; simpa using hx
      have e : bB zs c [x, x] = 80 := bB_else h0 (by simp [ho])
      exact ⟨by rw [e, tE_else h0 hx], fun h => by rw [tE_else h0 hx] at h; cases h⟩
  · exact ⟨by rw [bB_bad _ h0, tE_bad _ h0], fun h => by rw [tE_bad _ h0] at h; exact absurd h h0⟩
theorem ll_two {p : Nat → Prop} {W : World} {u : Value} {x : List Int} (hu : Rk .i8 p W u x) (T : TypeId) : LL .i8 (fun _ => True) (W.alloc (.cells #[u, u] T)) (.slice (some ⟨W.heap.size, 0, none⟩) 2 2) [x, x] := by
  refine ⟨_, 2, rfl, by simp, fun _ => ⟨W.heap.size, 0, rfl, trivial, by simp, fun i hi => ⟨u, ?_, ?_⟩⟩, fun e => (by cases e), Nat.le_refl _⟩
  · have hh := heap_alloc_new W (.cells #[u, u] T)
    rw [Lib.cell_of_heap hh, Nat.zero_add]
    match i, hi with
    | 0, _ => rfl
    | 1, _ => rfl
  · have : [x, x].getD i [] = x := by
      match i, hi with
      | 0, _ => rfl
      | 1, _ => rfl
    rw [this]
    exact (hu.fresh ((Kept.refl _ W).alloc _)).mono (fun _ _ => trivial)
/-- A list of two rows: its cells. -/
theorem OL.two {B : Nat} {W : World} {v : Value} {y : List Int} (h : OL B W v [y, y]) (hl : y.length * kb .i64 ≤ 140737488351232) (hz : ∀ z ∈ y, Fit .i64 z) : ∃ g a1 c1 a2 c2, v = .slice (some ⟨g, 0, none⟩) 2 2 ∧ W.cell? ⟨g, 0, none⟩ = some (.slice a1 y.length c1) ∧ W.cell? ⟨g, 1, none⟩ = some (.slice a2 y.length c2) ∧ Rk .i64 (fun _ => True) W (.slice a1 y.length c1) y ∧ Rk .i64 (fun _ => True) W (.slice a2 y.length c2) y := by
  rcases h with ⟨_, h⟩ | ⟨g, us, h1, h2, h3⟩
  · cases h
  · subst h1
    have k1 := h3.2.1 0 (by simp)
    have k2 := h3.2.1 1 (by simp)
    obtain ⟨g1, c1, e1, o1, _⟩ := k1
    obtain ⟨g2, c2, e2, o2, _⟩ := k2
    have hu : us.length = 2 := h3.1
    have d1 : W.cell? ⟨g, 0, none⟩ = some (us.getD 0 (.slice none 0 0)) := by
      rw [h2.cellAt 0 (by simp), List.getD_eq_getElem?_getD, List.getElem?_eq_getElem (by omega)]; rfl
    have d2 : W.cell? ⟨g, 1, none⟩ = some (us.getD 1 (.slice none 0 0)) := by
      rw [h2.cellAt 1 (by simp), List.getD_eq_getElem?_getD, List.getElem?_eq_getElem (by omega)]; rfl
    rw [e1] at d1 o1
    rw [e2] at d2 o2
    exact ⟨g, _, c1, _, c2, rfl, d1, d2, (rk_of_own o1 hl hz).mono (fun _ _ => trivial), (rk_of_own o2 hl hz).mono (fun _ _ => trivial)⟩
/-- Two rows, one behind the other, in memory of one's own. -/
theorem bothK {k : IntKind} {e s : TypeId} (ht : Ty k e s) (W : World) (av cv : Value) (A C : List Int) (p q : Nat → Prop) (hA : Rk k p W av A) (hC : Rk k q W cv C) (hl : (A.length + C.length) * kb k ≤ 140737488351232) :
    ∃ a1 c1 W1 a2 c2 W2, (Builtin.append_ #[s, s] s #[.slice (some ⟨W.heap.size, 0, none⟩) 0 0, av]).run Try.prog (W.alloc (.cells #[] e)) = .ok (.slice a1 A.length c1) W1 ∧ (Builtin.append_ #[s, s] s #[.slice a1 A.length c1, cv]).run Try.prog W1 = .ok (.slice a2 (A ++ C).length c2) W2 ∧ Fresh W W1 ∧ Fresh W W2 ∧ Rk k (fun _ => True) W2 (.slice a2 (A ++ C).length c2) (A ++ C) := by
  have hF0 : Fresh W (W.alloc (.cells #[] e)) := (Kept.refl _ W).alloc _
  obtain ⟨t1, W1, h1, h2, h3⟩ := twin ht s (W.alloc (.cells #[] e)) W.heap.size _ [] (own_empty W _ (Nat.le_refl _) _) hF0.size av A _ (hA.fresh hF0) (by have := hA.len; simpa using this)
  have hF1 : Fresh W W1 := hF0.grown h3 (fun b hk e => by simp [Value.ownBlock] at e; omega)
  simp only [List.length_nil, Nat.zero_add, List.nil_append] at h2
  obtain ⟨t2, W2, k1, k2, k3⟩ := twin ht s W1 W.heap.size t1 A h2 hF1.size cv C _ (hC.fresh hF1) hl
  have hF2 : Fresh W W2 := hF1.grown k3 (fun b hk e => by have := own_ge h2 e; omega)
  obtain ⟨a1, c1, e1⟩ := ownsRow_shape h2
  subst e1
  have hR := rk_of_own k2 (by rw [List.length_append]; exact hl) (fun z hz => by rcases List.mem_append.1 hz with e | e; exact hA.all z e; exact hC.all z e)
  obtain ⟨a2, c2, e2, _⟩ := hR.shape
  subst e2
  exact ⟨a1, c1, W1, a2, c2, W2, h1, k1, hF1, hF2, hR.mono (fun _ _ => trivial)⟩
/-- No product is greater than 128 times the size. -/
theorem times_size {zs x : List Int} {k R : Nat} (hk : 1 ≤ k) (hR : zs.length = R * k) (hx : ∀ z ∈ x, C8 z) {r : Nat} (hr : r < R) : -(128 * (sizesN zs k).getD r 0) ≤ (timesN zs k x).getD r 0 ∧ (timesN zs k x).getD r 0 ≤ 128 * (sizesN zs k).getD r 0 := by
  rw [timesN_rows hR hk, sizesN_rows hR hk]
  have h := dotN_size (part zs k r) x hx
  simp only [List.getD_eq_getElem?_getD, List.getElem?_map, List.getElem?_range hr]
  exact h
end Go.Proofs.Ytjffiojjjmecgaa
