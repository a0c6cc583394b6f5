/-
  An element more in a row: slices.Insert, on runs.
-/
import Derived.Test.YtonpdnpfekmapaaQuc
import Derived.Test.YtonpdnpfekmapaaZub
import Derived.Shelf.Spec.SlicesInsertGrow
namespace Go.Proofs.Ytonpdnpfekmapaa.SI
open Go.RowKit Go.Lib

theorem Try.infoE : (Try.prog.info? 108).map (fun i => (i.zero, i.size, i.bytes)) = some (some (.pointer none), 1, 8) := by kernel_rfl

/-- A row with an element more. -/
def InR (T : TypeId) (v : Value) (n : Nat) (l : List Value) (w : World) (r : Ending) (w' : World) : Prop :=
  ∃ g cap, r = .returned (.slice (some ⟨g, 0, none⟩) n cap) ∧ w'.ownsRow 0 T 1 (.slice (some ⟨g, 0, none⟩) n cap) n l ∧ Kept (ob v) w w' ∧ (v.ownBlock = some g ∨ w.heap.size ≤ g)
theorem InR.mk {T : TypeId} {v : Value} {n : Nat} {l : List Value} {w w' : World} {g cap : Nat} (h1 : w'.ownsRow 0 T 1 (.slice (some ⟨g, 0, none⟩) n cap) n l) (h2 : Kept (ob v) w w') (h3 : v.ownBlock = some g ∨ w.heap.size ≤ g) : InR T v n l w (.returned (.slice (some ⟨g, 0, none⟩) n cap)) w' := ⟨g, cap, rfl, h1, h2, h3⟩

set_option maxHeartbeats 4000000 in
set_option maxRecDepth 100000 in
theorem insE_shift (b n cap i : Nat) (cs : List Value) (x : Value) (vb : Nat) (w : World) (hown : w.ownsRow 0 108 1 (.slice (some ⟨b, 0, none⟩) n cap) n cs) (hi : i < n) (hroom : n + 1 ≤ cap)
    (hx : x.oneCell' = true) (h1c : ∀ v ∈ cs, v.oneCell' = true) (hvb : w.heap[vb]? = some (.cells #[x] 108 (0, 0))) (hne : vb ≠ b) :
    Calls Try.prog 115 #[.slice (some ⟨b, 0, none⟩) n cap, nV i, .slice (some ⟨vb, 0, none⟩) 1 1] w (InR 108 (.slice (some ⟨b, 0, none⟩) n cap) (n + 1) (cs.take i ++ x :: cs.drop i) w) := by
  obtain ⟨hcl, h2⟩ := hown
  rw [Nat.mul_one] at hcl
  rcases h2 with ⟨e, _⟩ | ⟨g, cap', cur, hv, _, hh, hnc, hcm, hsz, htk⟩
  · cases e
  injection hv with e1 _ e3
  injection e1 with e1
  injection e1 with e1
  subst e1
  subst e3
  rw [Nat.mul_one] at hsz htk
  have hc63 : cap ≤ 9223372036854775807 := by unfold maxLen at hcm; omega
  have hcs : ∀ j v, cs[j]? = some v → w.cell? ⟨b, j, none⟩ = some v := fun j v hj => by
    simp only [World.cell?, hh]
    rw [← htk, List.getElem?_take] at hj
    split at hj
    · simpa using hj
    · cases hj
  have hsp : ∀ j, j < n + 1 → (w.cell? ⟨b, j, none⟩).isSome = true := fun j hj => by
    simp only [World.cell?, hh]
    rw [Array.getElem?_eq_getElem (by omega)]
    rfl
  have hfz : ∀ j, w.frozen? ⟨b, j, none⟩ = false := fun j => Lib.frozen_of_heap hh j
  have hvc : w.cell? ⟨vb, 0, none⟩ = some x := by rw [Lib.cell_of_heap hvb]; rfl
  have hsize : (Try.prog.info? 108).map (·.size) = some 1 := by kernel_rfl
  have hov : ∀ lb cb, (callFunc 139 #[.slice (some ⟨vb, 0, none⟩) 1 1, .slice (some ⟨b, i + 1, none⟩) lb cb]).run Try.prog w = .ok (.value (.bool false)) w := fun lb cb => by
    rw [run_callFunc_extern Try.func139 (by kernel_rfl) (by kernel_rfl) (by kernel_rfl) (e := Extern.SlicesOverlaps.overlaps #[173, 173] #[4]) (by kernel_rfl),
      Lib.run_overlaps_apart w 173 4 108 Try.underlying173 1 Try.sizeOf108 ⟨vb, 0, none⟩ ⟨b, i + 1, none⟩ 1 1 lb cb hne 108 108 1 cur.size (by simp [World.shape?, hvb]) (by simp [World.shape?, hh]) (by omega) (Lib.frozen_of_heap hvb 0) (Lib.frozen_of_heap hvb 1)]
    rfl
  have hdl : (cs.drop i).length = n - i := by rw [List.length_drop, hcl]
  have hcp1 : ∀ ty dc sc, (Builtin.copy_ #[173, 173] ty #[.slice (some ⟨b, i + 1, none⟩) (n - i) dc, .slice (some ⟨b, i, none⟩) (n + 1 - i) sc]).run Try.prog w.drew = .ok (goInt (cs.drop i).length) (w.drew.setCells b (i + 1) (cs.drop i)) := fun ty dc sc =>
    run_copy_cells w.drew _ _ ty 108 b (i + 1) (n - i) dc ⟨b, i, none⟩ (n + 1 - i) sc (cs.drop i) Try.underlying173 hsize (by rw [hdl]; simp only [Nat.min_def]; split <;> omega)
      (fun j v hj => by rw [Addr.add_lit]; exact hcs (i + j) v (by rwa [List.getElem?_drop] at hj))
      (fun j hj => hsp _ (by omega)) (fun j hj => hfz _) (fun v hv => h1c v (List.mem_of_mem_drop hv))
  obtain ⟨W1, hW1⟩ : ∃ W1, W1 = w.drew.setCells b (i + 1) (cs.drop i) := ⟨_, rfl⟩
  have hcp2 : ∀ ty dc, (Builtin.copy_ #[173, 173] ty #[.slice (some ⟨b, i, none⟩) (n + 1 - i) dc, .slice (some ⟨vb, 0, none⟩) 1 1]).run Try.prog W1 = .ok (goInt [x].length) (W1.setCells b i [x]) := fun ty dc =>
    run_copy_cells W1 _ _ ty 108 b i (n + 1 - i) dc ⟨vb, 0, none⟩ 1 1 [x] Try.underlying173 hsize (by simp only [Nat.min_def, List.length_singleton]; split <;> omega)
      (fun j v hj => by
        rw [Addr.add_lit, hW1, World.cell?_setCells_out b _ _ _ _ (fun h _ => absurd h hne)]
        have : j = 0 := by
          rcases Nat.eq_zero_or_pos j with e | e
          · exact e
          · rw [List.getElem?_eq_none (by simp; omega)] at hj; cases hj
        subst this
        simp at hj
        subst hj
        exact hvc)
      (fun j hj => by
        rw [hW1]
        exact isSome_setCells b (cs.drop i) (i + 1) w.drew (fun t ht => hsp _ (by rw [hdl] at ht; omega)) (i + j) (hsp _ (by rw [List.length_singleton] at hj; omega)))
      (fun j hj => by rw [hW1, World.frozen?_setCells]; exact hfz _) (fun v hv => by rw [List.mem_singleton.1 hv]; exact hx)
  rw [← hW1] at hcp1
  have HEND : Hid (InR 108 (.slice (some ⟨b, 0, none⟩) n cap) (n + 1) (cs.take i ++ x :: cs.drop i) w (.returned (.slice (some ⟨b, 0, none⟩) (n + 1) cap)) (W1.setCells b i [x])) := by
    have q1 := heap_setCells (cs.drop i) (i + 1) w.drew cur.toList (by rw [Array.toArray_toList]; exact hh) (by rw [hdl, Array.length_toList]; omega)
    rw [← hW1] at q1
    have q2 := heap_setCells [x] i W1 _ q1 (by simp; omega)
    have hcur : cur.toList.take i = cs.take i := by rw [← htk, List.take_take, Nat.min_eq_left (by omega)]
    have hl1 : (cur.toList.take (i + 1)).length = i + 1 := by rw [List.length_take, Array.length_toList]; omega
    refine InR.mk ⟨?_, .inr ⟨b, cap, _, rfl, Nat.zero_le _, q2, hroom, hcm, ?_, ?_⟩⟩ ?_ (.inl rfl)
    · simp [hcl]; omega
    · simp [hcl]; omega
    · rw [Nat.mul_one, List.toList_toArray]
      have e1 : (List.take (i + 1) cur.toList ++ List.drop i cs ++ List.drop (i + 1 + (List.drop i cs).length) cur.toList).take i = cs.take i := by
        rw [List.append_assoc, List.take_append_of_le_length (by omega), List.take_take, Nat.min_eq_left (by omega), hcur]
      have e2 : (List.take (i + 1) cur.toList ++ List.drop i cs ++ List.drop (i + 1 + (List.drop i cs).length) cur.toList).drop (i + [x].length) = cs.drop i ++ List.drop (i + 1 + (List.drop i cs).length) cur.toList := by
        rw [List.append_assoc, List.drop_append, List.drop_of_length_le (by simp; omega), List.nil_append, hl1, List.length_singleton, Nat.sub_self, List.drop_zero]
      rw [e1, e2, List.append_assoc, List.singleton_append, ← List.cons_append, ← List.append_assoc]
      rw [List.take_append_of_le_length (by simp; omega), List.take_of_length_le (by simp; omega)]
    · rw [hW1]
      exact ((Kept.refl (ob (.slice (some ⟨b, 0, none⟩) n cap)) w).drew.trans (kept_setCells b _ _ _) (fun k _ e => by rw [e]; rfl)).trans (kept_setCells b _ _ _) (fun k _ e => by rw [e]; rfl)
  have mixed : Try.prog.follows .mixedOrders = true := by kernel_rfl
  have hz2 : ¬ ((i : Int) = (n : Int)) := by omega
  have hw1 : IntKind.i64.wrap ((i : Int) + 1) = (i : Int) + 1 := by rw [IntKind.wrap_i64]; omega
  have hb1 : (0 : Int) ≤ (i : Int) + 1 := by omega
  have hin : i ≤ n := by omega
  have htn : ((i : Int) + 1).toNat = i + 1 := by omega
  have hb2 : ¬ (cap = i + 1) := by omega
  have hb3 : (i : Int) ≤ (n : Int) + 1 := by omega
  have hb4 : ¬ (cap = i) := by omega
  clear hcs hsp hfz hvc hW1 hdl h1c hx hvb hh htk hcl
  go_enter Try.func115, Try.ntmps115
  go_wp2_with (simp only [hov])
  go_region_law_o (refine step_copy_runI rfl _ _ 173 173 rfl _ _ (by simp [Act.eval, Act.put]) (by simp [Act.eval, Act.put]) (hcp1 _ _ _) ?_)
  go_wp2_with (at_builtin; refine wpList_copy_runI _ rfl _ _ 173 173 rfl _ _ rfl rfl (hcp2 _ _) ?_)
  go_ret
  exact HEND.out
end Go.Proofs.Ytonpdnpfekmapaa.SI
