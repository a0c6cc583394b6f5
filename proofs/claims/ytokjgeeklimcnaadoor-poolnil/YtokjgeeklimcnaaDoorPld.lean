/-
  All taken places of a pool, gathered: held; and All, which makes an iterator over them.
-/
import Derived.Test.YtokjgeeklimcnaaDoorPlc
import Derived.Laws.MakeOwn
namespace Go.Proofs.YtokjgeeklimcnaaDoor
open Go.RowKit

/-- The taken places ahead of place i, with what they have. -/
def entsTo (l : List (Option Int)) (i : Nat) : List (Nat × Int) := (List.range i).filterMap fun j => (l.getD j none).map fun v => (j, v)
/-- All of them. -/
def ents (l : List (Option Int)) : List (Nat × Int) := entsTo l l.length
theorem entsTo_succ (l : List (Option Int)) (i : Nat) : entsTo l (i + 1) = entsTo l i ++ (match l.getD i none with | some v => [(i, v)] | none => []) := by
  unfold entsTo
  rw [List.range_succ, List.filterMap_append]
  cases h : l.getD i none with
  | none => simp [-List.getD_eq_getElem?_getD, h]
  | some v => simp [-List.getD_eq_getElem?_getD, h]
theorem entsTo_le (l : List (Option Int)) (i : Nat) : (entsTo l i).length ≤ i := by
  have := List.length_filterMap_le (fun j => (l.getD j none).map fun v => (j, v)) (List.range i)
  simpa [entsTo] using this
theorem entsTo_end (l : List (Option Int)) (n k : Nat) (h : ∀ j, n ≤ j → l.getD j none = none) : entsTo l (n + k) = entsTo l n := by
  induction k with
  | zero => rfl
  | succ k ih =>
    rw [← Nat.add_assoc, entsTo_succ, ih, h (n + k) (by omega)]
    simp
/-- Their cells. -/
def eV (es : List (Nat × Int)) : List Value := es.flatMap fun e => [.int .i64 (e.1 : Int), .int .i64 e.2]
theorem eV_length (es : List (Nat × Int)) : (eV es).length = es.length * 2 := by
  induction es with
  | nil => rfl
  | cons e es ih => simp only [eV, List.flatMap_cons, List.length_append, List.length_cons, List.length_nil] at ih ⊢; omega
theorem eV_snoc (es : List (Nat × Int)) (e : Nat × Int) : eV (es ++ [e]) = eV es ++ [.int .i64 (e.1 : Int), .int .i64 e.2] := by simp [eV]

theorem Tryd.infoH : (Tryd.prog.info? 93).map (fun i => (i.zero, i.size, i.bytes)) = some (some (.agg #[.int .i64 0, .int .i64 0]), 2, 16) := by kernel_rfl

theorem pl_getD {N : Nat} {xs : List Int} {ws : List Nat} {l : List (Option Int)} (h : pl N xs ws = l) (hN : xs.length ≤ N) (j : Nat) : l.getD j none = if j < xs.length && !bt ws j then some (xs.getD j 0) else none := by
  rw [← h, List.getD_eq_getElem?_getD]
  by_cases hj : j < N
  · rw [List.getElem?_eq_getElem (by rw [pl_length]; exact hj), Option.getD_some, pl_get]
  · rw [List.getElem?_eq_none (by rw [pl_length]; omega)]
    have : ¬ j < xs.length := by omega
    simp [this]

set_option maxHeartbeats 1000000 in
set_option maxRecDepth 100000 in
theorem held_any (F : Nat → Prop) (b : Nat) (l : List (Option Int)) (w : World) (h : PoolAt w F b l) :
    Calls Tryd.prog 41 #[.pointer (some ⟨b, 0, none⟩)] w fun e w' => ∃ v, e = .returned v ∧ w'.ownsRow w.heap.size 93 2 v (ents l).length (eV (ents l)) ∧ Fresh w w' := by
  obtain ⟨i0, hi, hz0, hz1, hz2⟩ := info_parts Tryd.infoH
  have hus := fun (_ : Unit) => used_any F b l w h
  have HUs := show Hid _ from hus
  clear hus
  have hul := used_le l
  have hll := h.len
  have hmk : ∀ (W : World) (u : Nat), u ≤ 65536 → (Instr.makeSlice 90 (.int .i64 0) (.int .i64 (u : Int))).run Tryd.prog W = .ok (.slice (some ⟨W.heap.size, 0, none⟩) 0 u) (W.alloc (.cells (madeCells (Value.agg #[.int .i64 0, .int .i64 0]).cells (u * 2)) 93)) := fun W u hu => by
    have h := run_make (P := Tryd.prog) W 90 93 i0 _ Tryd.underlying90 hi hz0 .i64 .i64 0 (u : Int) (by omega) (by omega) (by rw [hz2]; omega) (by omega)
    rw [hz1] at h
    simpa using h
  have hms : ∀ u : Nat, (madeCells (Value.agg #[.int .i64 0, .int .i64 0]).cells (u * 2)).size = u * 2 := fun u => size_madeCells _ _
  obtain ⟨vt, vw, xs, ws, c, f, h1, h2, h3, h4⟩ := h
  have hle := h1.le
  have hge := fun j => pl_getD h2 hle j
  obtain ⟨c0, c1, c2, c3, c4⟩ := h1.cells
  have hEnd : ents l = entsTo l xs.length := by
    unfold ents
    obtain ⟨k, hk⟩ := Nat.exists_eq_add_of_le hle
    rw [hk]
    exact entsTo_end l xs.length k (fun j hj => by rw [hge]; have : ¬ j < xs.length := (by omega); simp [this])
  rw [hEnd]
  have hmu := hmk
  clear hEnd hmk
  generalize used l = u at *
  have hm1 : ∀ W, (Instr.makeSlice 90 (.int .i64 0) (.int .i64 (u : Int))).run Tryd.prog W = .ok (.slice (some ⟨W.heap.size, 0, none⟩) 0 u) (W.alloc (.cells (madeCells (Value.agg #[.int .i64 0, .int .i64 0]).cells (u * 2)) 93)) := fun W => hmu W u (by omega)
  have hms1 := hms u
  clear hmu hms
  generalize madeCells (Value.agg #[.int .i64 0, .int .i64 0]).cells (u * 2) = M at *
  obtain ⟨ao, cap1, hv1⟩ := slice_shape h1.th
  have HP : Hid (PlAt w b l.length vt vw xs ws c f) := h1
  have HG : Hid (∀ j, l.getD j none = if j < xs.length && !bt ws j then some (xs.getD j 0) else none) := hge
  clear h1 h2 h3 h4 hge
  subst hv1
  go_enter Tryd.func41, Tryd.ntmps41
  go_wp2_with fail
  refine (HUs.out ()).mono ?_
  rintro e W0 ⟨rfl, n0, hW0⟩
  have hF0 : Fresh w W0 := by rw [hW0]; exact (Kept.refl _ _).drewN n0
  clear hW0
  have d1 : W0.cell? ⟨b, 1, none⟩ = some (.slice ao xs.length cap1) := (hF0.cell (p := ⟨b, 1, none⟩) (lt_of_heap HP.out.blk) (fun e => e)).trans c1
  have e1 : ∀ o, (W0.alloc o).cell? ⟨b, 1, none⟩ = some (.slice ao xs.length cap1) := fun o => (((Kept.refl (fun _ => False) W0).alloc o).cell (p := ⟨b, 1, none⟩) (World.block_lt_of_cell? W0 _ d1) (fun e => e)).trans d1
  have hsz0 := hF0.size
  go_wp2
  go_loopw [3, 16] (fun s i wr => ∃ j : Nat, j ≤ xs.length ∧ i = .int .i64 (j : Int) ∧ wr.ownsRow w.heap.size 93 2 s (entsTo l j).length (eV (entsTo l j)) ∧ Fresh w wr) (fun _ i _ => xs.length - (intOf i).toNat)
  case atStart => exact ⟨0, Nat.zero_le _, rfl, World.ownsRow_made _ _ _ hsz0 (by unfold maxLen; omega) hms1, hF0.alloc _⟩
  case round =>
    obtain ⟨j, hj, rfl, hown, hF⟩ := hrel
    have hP := HP.out.kept hF (fun _ _ e => e)
    by_cases hlt : j < xs.length
    · obtain ⟨g, cap, hv, hc⟩ := hP.thing j hlt
      cases hv
      have hge := HG.out j
      have hsucc := entsTo_succ l j
      have hel := entsTo_le l j
      cases hb : bt ws j with
      | true =>
        rw [hge, hb] at hsucc
        simp only [Bool.not_true, Bool.and_false, Bool.false_eq_true, if_false, List.append_nil] at hsucc
        have hha := fun (_ : Unit) => has_any b _ _ vw xs ws c f j wr hP (by omega)
        rw [hb] at hha
        have HH := show Hid _ from hha
        rw [← hsucc] at hown
        have HO := show Hid _ from (fun (_ : Unit) => hown)
        clear hha hP hsucc hown hge
        generalize xs.getD j 0 = y at *
        go_wp2_with fail
        refine (HH.out ()).mono ?_
        rintro e w' ⟨rfl, rfl⟩
        go_wp2
        go_roundw
        case rel => exact ⟨j + 1, by omega, by go_num, HO.out (), hF⟩
        case measure => simp [intOf]; omega
      | false =>
        rw [hge, hb] at hsucc
        have e3 : (decide (j < xs.length) && !false) = true := by simp [hlt]
        rw [if_pos e3] at hsucc
        have hha := fun (_ : Unit) => has_any b _ _ vw xs ws c f j wr hP (by omega)
        rw [hb] at hha
        have HH := show Hid _ from hha
        have hsz := hF.size
        have hjl : j < 65536 := by omega
        clear hha hP hge e3
        generalize xs.getD j 0 = y at *
        have HS : Hid (entsTo l (j + 1) = entsTo l j ++ [(j, y)]) := hsucc
        clear hsucc
        generalize entsTo l j = es at *
        go_wp2_with fail
        refine (HH.out ()).mono ?_
        rintro e w' ⟨rfl, rfl⟩
        go_wp2_with (at_builtin; refine wpList_append_lies _ rfl _ _ _ rfl w.heap.size 93 i0 _ 2 16 Tryd.underlying90 hi hz0 hz1 hz2 rfl (by omega) _ _ _ rfl (hown.alloc _) ⟨w'.heap.size, 0, none⟩ 1 1 [.int .i64 (j : Int), .int .i64 y] rfl rfl (World.news_of_block (cs := #[.int .i64 (j : Int), .int .i64 y]) (t := 93) (fr := (0, 0)) (heap_alloc_new w' _)) (by simp [Value.oneCell']) (by omega) (by unfold maxLen; omega) (by omega) (by simp; omega) (w'.heap.size + 1) (by simp) ?_; intro g2 cap2 w1 hown1 hgrow hat hlt2)
        have hF1 : Fresh w w1 := (hF.alloc _).grown hgrow (fun k hk e => by have := hown.lt k e; omega)
        rw [← eV_snoc es (j, y), ← HS.out] at hown1
        have hl1 : es.length + 1 = (entsTo l (j + 1)).length := by rw [HS.out]; simp
        rw [hl1] at hown1
        go_roundw
        case rel => exact ⟨j + 1, by omega, by go_num, by rw [hl1]; exact hown1, hF1⟩
        case measure => simp [intOf]; omega
    · obtain rfl : j = xs.length := by omega
      have HO : Hid _ := fun (_ : Unit) => hown
      clear hP hown
      go_wp2
      go_ret
      exact ⟨_, rfl, HO.out (), hF⟩
end Go.Proofs.YtokjgeeklimcnaaDoor
