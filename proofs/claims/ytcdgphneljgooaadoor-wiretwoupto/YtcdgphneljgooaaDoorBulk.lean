/-
  What the bound on the bulk of what is handed over gives; a script of Ops, out of its reading.
-/
import Derived.Test.YtcdgphneljgooaaDoorRc
import Derived.Deep.Slices
namespace Go.Proofs.YtcdgphneljgooaaDoor
open Go.ChangeShapes Go.WideShapes Go.ChangeAt Go.RowKit

theorem bulk_pos {H : Type} (d : DataW H) : 1 ≤ Rows.uptoBulk d := by
  cases d with
  | lit l => cases l <;> simp [Rows.uptoBulk]
  | nil => simp [Rows.uptoBulk]
  | ptr d => simp [Rows.uptoBulk]
  | slice elems spare => simp [Rows.uptoBulk]
  | agg parts => simp [Rows.uptoBulk]
  | iface t d => simp [Rows.uptoBulk]
  | map entries => simp [Rows.uptoBulk]
  | held h => simp [Rows.uptoBulk]

theorem bulk_append {H : Type} (l r : List (DataW H)) : Rows.uptoBulkAll (l ++ r) = Rows.uptoBulkAll l + Rows.uptoBulkAll r := by
  induction l with
  | nil => simp [Rows.uptoBulkAll]
  | cons x l ih => simp only [List.cons_append, Rows.uptoBulkAll, ih]; omega

theorem bulk_length {H : Type} (l : List (DataW H)) : l.length ≤ Rows.uptoBulkAll l := by
  induction l with
  | nil => simp [Rows.uptoBulkAll]
  | cons x r ih => have := bulk_pos x; simp only [Rows.uptoBulkAll, List.length_cons]; omega

theorem bulk_range {H : Type} (D : Nat → DataW H) (k len : Nat) (h : k ≤ len) : Rows.uptoBulkAll ((List.range k).map D) ≤ Rows.uptoBulkAll ((List.range len).map D) := by
  obtain ⟨r, rfl⟩ := Nat.exists_eq_add_of_le h
  rw [List.range_add, List.map_append, bulk_append]
  omega

theorem bulk_le {H : Type} {l : List (DataW H)} (hk : Rows.uptoSmall H l = true) : Rows.uptoBulkAll l ≤ 1048576 := of_decide_eq_true hk

theorem lits_length (k : IntKind) (zs : List Int) {H : Type} : (lits (H := H) k zs).length = zs.length := by simp [lits]

/-- An Op, out of its reading. -/
theorem opD_of {H : Type} {enc : TypeId × Value → H} {W : World} {fuel : Nat} {cs : List Value} {x : DataW H × List MemPlace} (h : DataW.trod enc Tryd.prog W 0 (fun _ => true) true fuel 33 cs = some x) (hb : Rows.uptoBulk x.1 ≤ 1048576) :
    ∃ o : OpD, cs = [.int .i64 o.k, .int .i64 o.n, .int .i64 o.b, o.rv, .string o.s] ∧ o.Fits W.heap.size W ∧ o.room ≤ 16 * Rows.uptoBulk x.1 := by
  obtain ⟨k, n, b, v3, s, m, y3, hcs, hk, hn, hbt, h3, _, hx⟩ := op_parts h
  rw [hx] at hb ⊢
  simp only [Rows.uptoBulk, Rows.uptoBulkAll] at hb ⊢
  rw [← Lib.size_eq] at hb ⊢
  have hrow : ∀ es sp, y3.1 = .slice es sp → es.length ≤ 140737488351232 := fun es sp e => by
    rw [e] at hb
    simp only [Rows.uptoBulk] at hb
    have := bulk_length es
    omega
  obtain ⟨zs, hr, hy⟩ := row_of h3 hrow
  refine ⟨⟨k, n, b, v3, zs, s⟩, hcs, ⟨hn, hbt, hr, by show s.size ≤ 1048576; omega⟩, ?_⟩
  show 16 + zs.length + s.size ≤ _
  have hz : zs.length ≤ Rows.uptoBulk y3.1 := by
    rcases hy with ⟨_, rfl⟩ | ⟨sp, e⟩
    · simp
    · rw [e]
      simp only [Rows.uptoBulk]
      have := bulk_length (lits (H := H) .i8 zs)
      rw [lits_length] at this
      omega
  omega

theorem script_of {H : Type} {enc : TypeId × Value → H} {W : World} {fuel : Nat} {v : Value} {x : DataW H × List MemPlace} (h : DataW.trod enc Tryd.prog W 0 (fun _ => true) true fuel 28 [v] = some x) (hb : Rows.uptoBulk x.1 ≤ 1048576) :
    ∃ l : List OpD, ScriptIs W.heap.size W v l ∧ room l ≤ 16 * Rows.uptoBulk x.1 := by
  rcases Go.Deep.open_slice Tryd.underlying28 h with ⟨hcs, hx⟩ | ⟨a, len, cap, m, n, D, Pl, hcs, _, hl, hmx, hm, hx, hel⟩
  · refine ⟨[], ⟨none, 0, by simpa using hcs, by simp, fun e => absurd rfl e, by simp⟩, by simp [room]⟩
  · simp only [if_true] at hm
    subst hm
    rw [hx] at hb ⊢
    simp only [Rows.uptoBulk] at hb ⊢
    rw [Tryd.cOp] at hel
    have build : ∀ k, k ≤ len → ∃ l : List OpD, l.length = k ∧ room l ≤ 16 * Rows.uptoBulkAll ((List.range k).map D) ∧ ∀ i (hi : i < l.length), W.cells? 0 (a.add (i * 5)) 5 = some [.int .i64 l[i].k, .int .i64 l[i].n, .int .i64 l[i].b, l[i].rv, .string l[i].s] ∧ l[i].Fits W.heap.size W := by
      intro k
      induction k with
      | zero => intro _; exact ⟨[], rfl, by simp [room], fun i hi => by simp at hi⟩
      | succ k ih =>
        intro hk
        obtain ⟨l, hlk, hrm, hcl⟩ := ih (by omega)
        obtain ⟨cs', hc, ht⟩ := hel k (by omega)
        have hbk : Rows.uptoBulkAll ((List.range (k + 1)).map D) = Rows.uptoBulkAll ((List.range k).map D) + Rows.uptoBulk (D k) := by
          rw [List.range_succ, List.map_append, bulk_append]
          simp [Rows.uptoBulkAll]
        have hle := bulk_range D (k + 1) len (by omega)
        obtain ⟨o, ho, hfit, hro⟩ := opD_of ht (by show Rows.uptoBulk (D k) ≤ _; omega)
        refine ⟨l ++ [o], by simp [hlk], ?_, fun i hi => ?_⟩
        · have hr2 : room (l ++ [o]) = room l + o.room := by simp [room]
          rw [hr2, hbk]
          have : o.room ≤ 16 * Rows.uptoBulk (D k) := hro
          omega
        · by_cases hik : i < l.length
          · rw [List.getElem_append_left hik]
            exact hcl i hik
          · have hie : i = l.length := by simp at hi; omega
            subst hie
            rw [List.getElem_concat_length rfl]
            rw [hlk, hc, ho]
            exact ⟨rfl, hfit⟩
    obtain ⟨l, hll, hrm, hcl⟩ := build len (Nat.le_refl _)
    refine ⟨l, ⟨some a, m, by rw [hll]; simpa using hcs, ?_, fun hne => ?_, fun o ho => ?_⟩, by omega⟩
    · have := bulk_length ((List.range len).map D)
      rw [List.length_map, List.length_range] at this
      omega
    · have hpos : 0 < l.length := List.length_pos_iff.2 hne
      obtain ⟨b, off, spot⟩ := a
      have h0 := (World.cells?_some (hcl 0 hpos).1).2.2 0 (by omega)
      have hspot : spot = none := by simpa [Addr.add] using World.cell?_spot h0
      subst hspot
      have hb0 := World.block_lt_of_cell? W _ h0
      refine ⟨b, off, rfl, by simpa [Addr.add] using hb0, by simpa [Addr.add] using hb0, fun i hi => ?_⟩
      have hc := (World.cells?_some (hcl i hi).1).2.2
      have c0 := hc 0 (by omega)
      have c1 := hc 1 (by omega)
      have c2 := hc 2 (by omega)
      have c3 := hc 3 (by omega)
      have c4 := hc 4 (by omega)
      simp only [Addr.add_lit] at c0 c1 c2 c3 c4
      exact ⟨c0, c1, c2, c3, c4⟩
    · obtain ⟨i, hi, rfl⟩ := List.getElem_of_mem ho
      exact (hcl i hi).2

end Go.Proofs.YtcdgphneljgooaaDoor
