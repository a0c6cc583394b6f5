/-
  Rows of 8 bits, the list that holds them, and rows besides: a store into one, one grown; what it begins with.
-/
import Derived.Test.YtkemaofclahaiaaDoorNoY
import Derived.Test.YtkemaofclahaiaaDoorGr2
namespace Go.Proofs.YtkemaofclahaiaaDoor
open Go.RowKit Go.Lib Go.Maps

theorem rows_at {us : List Value} {F : Nat → List Int} {ex : List Rr} {p : Nat} (hp : p < us.length) (kv : Value) : ∃ hl : p + 1 < (KR kv us :: (rowsOf us F ++ ex)).length, (KR kv us :: (rowsOf us F ++ ex))[p + 1] = R8 (us.getD p nilS) (F p) := by
  refine ⟨by simp [rowsOf_len]; omega, ?_⟩
  rw [List.getElem_cons_succ, List.getElem_append_left (by rw [rowsOf_len]; exact hp)]
  exact rowsOf_get hp _
/-- A store into one of the rows. -/
theorem MemX.storeX {B : Nat} {X : World} {kv : Value} {us : List Value} {F : Nat → List Int} {ex : List Rr} (h : MemX B X kv us F ex) {p g n c : Nat} (hp : p < us.length) (hu : us.getD p nilS = .slice (some ⟨g, 0, none⟩) n c) (i : Nat) (v : Int) : MemX B (X.setCell ⟨g, i, none⟩ (.int .i8 v)) kv us (fun q => if q = p then (F p).set i v else F q) ex := by
  have ho := h.row hp
  unfold MemX at h ⊢
  obtain ⟨hl, e1⟩ := rows_at (F := F) (ex := ex) hp kv
  have hn : n = (F p).length := by
    obtain ⟨ao, cp, e⟩ := ownsRow_shape ho
    rw [hu] at e
    injection e
  rw [hu] at ho
  subst hn
  have h2 := Rs.turnAt (r' := R8 (us.getD p nilS) ((F p).set i v)) h hl (X' := X.setCell ⟨g, i, none⟩ (.int .i8 v)) ((Kept.refl _ X).setCell (p := ⟨g, i, none⟩) (fun _ => by rw [e1]; show (us.getD p nilS).ownBlock = _; rw [hu]; simp [Value.ownBlock]) _) (by
    show (X.setCell ⟨g, i, none⟩ (.int .i8 v)).ownsRow B 33 1 (us.getD p nilS) (((F p).set i v).map (Value.int .i8)).length (((F p).set i v).map (Value.int .i8))
    rw [hu, List.map_set, List.length_set, List.length_map]
    exact own_setB (i := i) (x := Value.int .i8 v) ho) (fun k e => .inl (by rw [e1]; exact e))
  rw [List.set_cons_succ, List.set_append_left _ _ (by rw [rowsOf_len]; exact hp), rowsOf_set hp] at h2
  exact h2
/-- One of the rows, to be grown beside itself. -/
def GroX (B : Nat) (X : World) (kv : Value) (us : List Value) (F : Nat → List Int) (ex : List Rr) (p : Nat) (gv : Value) (m : Nat) : Prop :=
  Bes B X (R8 (us.getD p nilS) (F p)) ((KR kv us :: (rowsOf us F ++ ex)).eraseIdx (p + 1)) gv m
theorem GroX.start {B : Nat} {X : World} {kv : Value} {us : List Value} {F : Nat → List Int} {ex : List Rr} (h : MemX B X kv us F ex) {p : Nat} (hp : p < us.length) : GroX B X kv us F ex p (us.getD p nilS) (F p).length := by
  unfold MemX at h
  obtain ⟨hl, e1⟩ := rows_at (F := F) (ex := ex) hp kv
  have h1 := h.perm (perm_at _ (p + 1) hl)
  rw [e1] at h1
  have h2 := Bes.start h1
  rw [show (R8 (us.getD p nilS) (F p)).xs.length = (F p).length from List.length_map _] at h2
  exact h2
theorem GroX.done {B : Nat} {X : World} {kv : Value} {us : List Value} {F : Nat → List Int} {ex : List Rr} {p : Nat} {gv : Value} {m : Nat} (h : GroX B X kv us F ex p gv m) (hp : p < us.length) : MemX B X kv us F ex := by
  obtain ⟨hl, e1⟩ := rows_at (F := F) (ex := ex) hp kv
  have h2 := perm_at _ (p + 1) hl
  rw [e1] at h2
  exact h.1.perm h2.symm
theorem GroX.push {B : Nat} {X : World} {kv : Value} {us : List Value} {F : Nat → List Int} {ex : List Rr} {p : Nat} {gv : Value} {m : Nat} (h : GroX B X kv us F ex p gv m) (hB : B ≤ X.heap.size) (v : Int) (hm : m ≤ 100000) :
    ∃ gv' X', (Builtin.append_ #[22, 22] 22 #[gv, .slice (some ⟨X.heap.size, 0, none⟩) 1 1]).run Tryd.prog (X.alloc (.cells #[.int .i8 v] 33)) = .ok gv' X' ∧ GroX B X' kv us F ex p gv' (m + 1) ∧ ∀ W : World, W.heap.size = B → Fresh W X → Fresh W X' := by
  obtain ⟨i0, hi0, hz0, hz1, hz2⟩ := info_parts ty8.info
  obtain ⟨gv', X', h1, h2, h3, h4, h5, h6, h7⟩ := Bes.push (t := 22) (ty := 22) (u := .int .i8 v) h hB ty8.u hi0 hz0 hz1 hz2 rfl rfl (by unfold maxLen; omega) (by simp only [kb]; omega)
  exact ⟨gv', X', h1, h2, fun W hW hF => ⟨h4.trans hF.os, h5.trans hF.tape, h6.trans hF.output, Nat.le_trans hF.size h7, fun k hk hn => (h3 k (by omega)).trans (hF.block k hk hn)⟩⟩
/-- What a grown row begins with. -/
theorem GroX.begins {B : Nat} {X : World} {kv : Value} {us : List Value} {F : Nat → List Int} {ex : List Rr} {p : Nat} {gv : Value} {m : Nat} (h : GroX B X kv us F ex p gv m) (hF : 0 < (F p).length) : ∃ g c, gv = .slice (some ⟨g, 0, none⟩) m c ∧ X.cell? ⟨g, 0, none⟩ = some (.int .i8 ((F p).getD 0 0)) ∧ 0 < m := by
  obtain ⟨_, ys, hy, ho, ⟨hle, hpre⟩, _⟩ := h
  simp only [List.length_map] at hle hpre
  rcases ho.2 with ⟨_, e⟩ | ⟨g', cap', cur, hv, _⟩
  · omega
  · subst hv
    refine ⟨g', cap', rfl, ?_, by omega⟩
    rw [ho.cellAt 0 (by omega)]
    have e : ys[0]? = (ys.take (F p).length)[0]? := by rw [List.getElem?_take_of_lt hF]
    rw [e, hpre, List.getElem?_map, List.getD_eq_getElem?_getD, List.getElem?_eq_getElem hF]
    rfl
theorem GroX.shape {B : Nat} {X : World} {kv : Value} {us : List Value} {F : Nat → List Int} {ex : List Rr} {p : Nat} {gv : Value} {m : Nat} (h : GroX B X kv us F ex p gv m) : ∃ ao c, gv = .slice ao m c := by
  obtain ⟨_, ys, hy, ho, _⟩ := h
  exact ownsRow_shape ho
/-- Two lists that one call made. -/
theorem Gives2.rs {A B : List Int} {E : Int} {w w' : World} {x : Ending} (h : Gives2 A B E w x w') : ∃ u v, x = .returned (.tuple #[u, v, zV E]) ∧ Rs w.heap.size w' [R8 u A, R8 v B] ∧ Fresh w w' := by
  obtain ⟨u, v, h1, h2, h3, h4, h5⟩ := h
  refine ⟨u, v, h1, ⟨fun r hr => ?_, ?_⟩, h5⟩
  · simp only [List.mem_cons, List.not_mem_nil, or_false] at hr
    rcases hr with e | e
    · subst e; exact R8.at h2
    · subst e; exact R8.at h3
  · simp only [List.pairwise_cons, List.mem_cons, List.not_mem_nil, or_false, forall_eq, List.Pairwise.nil, and_true, false_implies, implies_true]
    exact h4
theorem Rs.rk {B : Nat} {X : World} {l : List Rr} {u : Value} {x : List Int} (h : Rs B X l) (hu : R8 u x ∈ l) (hl : x.length * kb .i8 ≤ 140737488351232) (hz : ∀ z ∈ x, Fit .i8 z) : Rk .i8 (fun b => B ≤ b ∧ b < X.heap.size) X u x := by
  have h1 := h.own _ hu
  unfold Rr.At at h1
  exact rk_of_own (by simpa using h1) hl hz
/-- A list of three rows, laid in a new block. -/
theorem Rs.three {B : Nat} {X : World} {l : List Rr} (h : Rs B X l) (hB : B ≤ X.heap.size) (a b c : Value) : Rs B (X.alloc (.cells #[a, b, c] 22)) (KR (.slice (some ⟨X.heap.size, 0, none⟩) 3 3) [a, b, c] :: l) :=
  Rs.made h ((Kept.refl _ X).alloc _) hB ⟨rfl, .inr ⟨X.heap.size, 3, #[a, b, c], rfl, Nat.le_refl _, heap_alloc_new X _, Nat.le_refl _, by unfold maxLen; omega, rfl, rfl⟩⟩
/-- x[:h]. -/
theorem run_pre8 (b off n cap h : Nat) (hc : h ≤ cap) (W : World) : (Instr.slice 22 (.slice (some ⟨b, off, none⟩) n cap) none (some (.int .i64 (h : Int))) none).run Tryd.prog W = .ok (.slice (some ⟨b, off, none⟩) h cap) W := by
  have hu : Tryd.prog.underlying 22 = some (.slice (Tryd.prog.elem 22)) := by simp [Program.elem, Tryd.underlying22]
  have he : Tryd.prog.elem 22 = 33 := by simp [Program.elem, Tryd.underlying22]
  have hz : (sizeOf 33).run Tryd.prog W = .ok 1 W := by kernel_rfl
  rw [run_slice_h (P := Tryd.prog) W 22 _ n cap hu .i64 (h : Int) (by omega) (by omega), he, hz]
  simp [sliced, Result.andThen, Addr.add_lit]
end Go.Proofs.YtkemaofclahaiaaDoor
