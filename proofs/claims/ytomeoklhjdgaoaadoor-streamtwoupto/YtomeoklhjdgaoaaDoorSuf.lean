/-
  The document's stream as a value: its end.
-/
import Derived.Test.YtomeoklhjdgaoaaDoorSue
import Derived.Laws.ResultCell
import Derived.Laws.Rows
namespace Go.Proofs.YtomeoklhjdgaoaaDoor
open Go.RowKit Go.Lib Go.Maps

theorem results_ct {P : Program} {fn : Func} {p u : Tmp} {ty : TypeId} (h : fn.results = #[.cell p ty, .tmp u]) (tmps : Array Value) (w : World) (g : Nat) (t : TypeId) (cs : Array Value) (fr : Nat × Nat) (d : TypeDesc)
    (hp : tmps.getD p undef = .pointer (some ⟨g, 0, none⟩)) (hg : w.heap[g]? = some (.cells cs t fr))
    (hu : P.underlying ty = some d) (hd : (match d with | .struct _ | .array _ _ => true | _ => false) = true) (hi : (P.info? ty).map (·.size) = some cs.size) :
    (results fn tmps).run P w = .ok (.tuple #[.agg cs, tmps.getD u undef]) w := by
  rw [results_cell_tmp h, hp]
  simp [asAddr, run_loadVar_row w g t ty cs fr d hg hu hd hi]
theorem rsSize : (Tryd.prog.info? 30).map (·.size) = some 6 := by kernel_rfl
theorem alloc2 (w : World) (a b : Obj) : ((w.alloc a).alloc b).heap[w.heap.size + 1]? = some b := by
  have := heap_alloc_new (w.alloc a) b
  rwa [World.size_alloc] at this
theorem alloc1 (w : World) (a b : Obj) : ((w.alloc a).alloc b).heap[w.heap.size]? = some a := by
  rw [Below.heap_alloc _ _ _ (by rw [World.size_alloc]; omega)]
  exact heap_alloc_new _ _
theorem six_set {W : World} {z : Nat} {a0 a1 a2 a3 a4 a5 : Value} {t : TypeId} (h : W.heap[z]? = some (.cells #[a0, a1, a2, a3, a4, a5] t (0, 0))) (v0 v1 v2 v3 v4 v5 : Value) :
    ((((((W.setCell ⟨z, 0, none⟩ v0).setCell ⟨z, 1, none⟩ v1).setCell ⟨z, 2, none⟩ v2).setCell ⟨z, 3, none⟩ v3).setCell ⟨z, 4, none⟩ v4).setCell ⟨z, 5, none⟩ v5).heap[z]? = some (.cells #[v0, v1, v2, v3, v4, v5] t (0, 0)) := by
  have e0 := Lib.heap_setCell_same h v0 (i := 0)
  have e1 := Lib.heap_setCell_same e0 v1 (i := 1)
  have e2 := Lib.heap_setCell_same e1 v2 (i := 2)
  have e3 := Lib.heap_setCell_same e2 v3 (i := 3)
  have e4 := Lib.heap_setCell_same e3 v4 (i := 4)
  exact Lib.heap_setCell_same e4 v5 (i := 5)
abbrev rsO (no : Bool) (sv : Value) (all out : List UInt8) (met : Int) (en : Bool) : Obj := .cells #[.bool no, sv, sV all, sV out, zV met, .bool en] 30 (0, 0)
abbrev rs0 : Obj := .cells #[.bool false, .slice none 0 0, sV [], sV [], zV 0, .bool false] 30 (0, 0)
theorem six_cells {W : World} {z : Nat} {a0 a1 a2 a3 a4 a5 : Value} {t : TypeId} (h : W.heap[z]? = some (.cells #[a0, a1, a2, a3, a4, a5] t (0, 0))) :
    W.cell? ⟨z, 0, none⟩ = some a0 ∧ W.cell? ⟨z, 1, none⟩ = some a1 ∧ W.cell? ⟨z, 2, none⟩ = some a2 ∧ W.cell? ⟨z, 3, none⟩ = some a3 ∧ W.cell? ⟨z, 4, none⟩ = some a4 ∧ W.cell? ⟨z, 5, none⟩ = some a5 ∧ ∀ k, W.frozen? ⟨z, k, none⟩ = false := by
  refine ⟨?_, ?_, ?_, ?_, ?_, ?_, fun k => Lib.frozen_of_heap h k⟩ <;> (rw [Lib.cell_of_heap h]; rfl)
theorem six_fresh {w W : World} (h : Fresh w W) (o v0 v1 v2 v3 v4 v5 : Value) :
    Fresh w (((((((W.setCell ⟨w.heap.size, 3, none⟩ o).setCell ⟨w.heap.size + 1, 0, none⟩ v0).setCell ⟨w.heap.size + 1, 1, none⟩ v1).setCell ⟨w.heap.size + 1, 2, none⟩ v2).setCell ⟨w.heap.size + 1, 3, none⟩ v3).setCell ⟨w.heap.size + 1, 4, none⟩ v4).setCell ⟨w.heap.size + 1, 5, none⟩ v5) := by
  have hn : ¬ w.heap.size + 1 < w.heap.size := by omega
  exact ((((((h.setCell (fun e => absurd e (Nat.lt_irrefl _)) _).setCell (fun e => absurd e hn) _).setCell (fun e => absurd e hn) _).setCell (fun e => absurd e hn) _).setCell (fun e => absurd e hn) _).setCell (fun e => absurd e hn) _).setCell (fun e => absurd e hn) _
set_option maxHeartbeats 2000000 in
set_option maxRecDepth 100000 in
theorem refEnd_done (no en : Bool) (so : Option Addr) (sn sc : Nat) (all out : List UInt8) (met : Int) (w : World) (h : no = true ∨ en = true ∨ 0 ≤ met) :
    Calls Tryd.prog 36 #[rsV no (.slice so sn sc) all out met en] w fun e w' => e = .returned (.tuple #[rsV no (.slice so sn sc) all out met true, sV []]) ∧ Fresh w w' := by
  have HF : Hid (∀ a b, Fresh w ((w.alloc a).alloc b)) := fun a b => ((Kept.refl _ w).alloc _).alloc _
  cases no with
  | true =>
    clear h
    go_enter Tryd.func36, Tryd.ntmps36
    go_wp2
    exact bodyPost_ret (results_ct rfl _ _ (w.heap.size + 1) _ _ _ _ rfl (alloc2 _ _ _) Tryd.underlying30 rfl rsSize) rfl ⟨rfl, HF.out _ _⟩
  | false =>
    cases en with
    | true =>
      clear h
      go_enter Tryd.func36, Tryd.ntmps36
      go_wp2
      exact bodyPost_ret (results_ct rfl _ _ (w.heap.size + 1) _ _ _ _ rfl (alloc2 _ _ _) Tryd.underlying30 rfl rsSize) rfl ⟨rfl, HF.out _ _⟩
    | false =>
      have h0 : 0 ≤ met := by simpa using h
      clear h
      go_enter Tryd.func36, Tryd.ntmps36
      go_wp2
      exact bodyPost_ret (results_ct rfl _ _ (w.heap.size + 1) _ _ _ _ rfl (alloc2 _ _ _) Tryd.underlying30 rfl rsSize) rfl ⟨rfl, HF.out _ _⟩
set_option maxHeartbeats 4000000 in
set_option maxRecDepth 100000 in
theorem refEnd_live (so : Option Addr) (sn sc : Nat) (all out rest : List UInt8) (w : World) (hl : all.length ≤ 16777216) (hc : clL all = out ++ rest) :
    Calls Tryd.prog 36 #[rsV false (.slice so sn sc) all out (-1) false] w fun e w' => e = .returned (.tuple #[rsV false (.slice so sn sc) all (out ++ rest) (-1) true, sV rest]) ∧ Fresh w w' := by
  have hcl := clL_le all
  have hcl2 : out.length + rest.length = (clL all).length := by rw [hc, List.length_append]
  have hos : (⟨out.toArray⟩ : ByteArray).size = out.length := len_l _
  have hrs : (⟨rest.toArray⟩ : ByteArray).size = rest.length := len_l _
  have hcat : (⟨out.toArray⟩ : ByteArray) ++ ⟨rest.toArray⟩ = ⟨(out ++ rest).toArray⟩ := cat_l _ _
  have hsl : ∀ w, (Instr.slice 9 (sV (out ++ rest)) (some (.int .i64 (out.length : Int))) none none).run Tryd.prog w = .ok (sV rest) w := fun w => by
    have := slice_from (out ++ rest) out.length (by rw [List.length_append]; omega) w
    rwa [List.drop_left] at this
  have hsz : ((w.alloc (rsO false (.slice so sn sc) all out (-1) true)).alloc rs0).heap.size = w.heap.size + 2 := by rw [World.size_alloc, World.size_alloc]
  have HC : Hid (∀ d : Nw ((w.alloc (rsO false (.slice so sn sc) all out (-1) true)).alloc rs0), Calls Tryd.prog 11 #[sV all] d.w fun e w' => e = .returned (sV (out ++ rest)) ∧ Fresh d.w w') := fun d => by
    have := refClean_any all d.w (by omega)
    rwa [hc] at this
  have HB : Hid (∀ d : Nw ((w.alloc (rsO false (.slice so sn sc) all out (-1) true)).alloc rs0), d.w.heap[w.heap.size]? = some (rsO false (.slice so sn sc) all out (-1) true) ∧ d.w.heap[w.heap.size + 1]? = some rs0 ∧ Fresh w d.w) := fun d =>
    ⟨d.f.at (alloc1 _ _ _) (fun e => e), d.f.at (alloc2 _ _ _) (fun e => e), (((Kept.refl _ w).alloc _).alloc _).trans d.f (fun _ _ e => e)⟩
  have k2 : ∀ d : Nw ((w.alloc (rsO false (.slice so sn sc) all out (-1) true)).alloc rs0), d.w.cell? ⟨w.heap.size, 2, none⟩ = some (sV all) := fun d => (six_cells (HB.out d).1).2.2.1
  have k3 : ∀ d : Nw ((w.alloc (rsO false (.slice so sn sc) all out (-1) true)).alloc rs0), d.w.cell? ⟨w.heap.size, 3, none⟩ = some (sV out) := fun d => (six_cells (HB.out d).1).2.2.2.1
  haveI : Nonempty (Nw ((w.alloc (rsO false (.slice so sn sc) all out (-1) true)).alloc rs0)) := nw_some _
  clear hc hsz
  go_enter Tryd.func36, Tryd.ntmps36
  go_wp2
  refine wp_region_new (W := (w.alloc (rsO false (.slice so sn sc) all out (-1) true)).alloc rs0) (by kernel_rfl) (by kernel_rfl) ?_
  repeat (first | go_big_quiet_step ((with_reducible exact Calls.new_of (HC.out _))) | quiet_step ((with_reducible exact Calls.new_of (HC.out _))))
  refine wpQuiet_nil ?_
  intro _ hw'
  obtain ⟨dq, hw''⟩ := hw'
  subst hw''
  obtain ⟨hb3, hz3, hf3⟩ := HB.out dq
  generalize dq.w = W3 at *
  obtain ⟨c0, c1, c2, c3, c4, c5, cf⟩ := six_cells hb3
  have HF : Hid (Fresh w W3) := hf3
  have hz4 : (W3.setCell ⟨w.heap.size, 3, none⟩ (sV (out ++ rest))).heap[w.heap.size + 1]? = some rs0 := (Below.heap_setCell _ _ _ _ (by show w.heap.size + 1 ≠ w.heap.size; omega)).trans hz3
  obtain ⟨z0, z1, z2, z3, z4, z5, zf⟩ := six_cells hz3
  have HZ := show Hid _ from six_set hz4
  have HFx := show Hid _ from six_fresh HF.out
  clear k2 k3 HB HC hf3 hb3 hz3 hz4
  go_wp2
  exact bodyPost_ret (results_ct rfl _ _ (w.heap.size + 1) _ _ _ _ rfl (HZ.out _ _ _ _ _ _) Tryd.underlying30 rfl rsSize) rfl ⟨rfl, HFx.out _ _ _ _ _ _ _⟩
end Go.Proofs.YtomeoklhjdgaoaaDoor
