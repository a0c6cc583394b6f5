/-
  Rows of numbers of a kind: told by their cells; copied, made, grown; out of their reading.
-/
import Derived.Test.YtakiimjldccgcabDoorVcNToFrQ
import Derived.Test.YtakiimjldccgcabDoorChecked
import Derived.Maps.AppendAt
import Derived.Deep.AppendSrc
import Derived.Lib.AppendZeros
import Derived.BigQuiet
import Derived.Deep.RegionHeld3
import Derived.Deep.RegionLaw
import Derived.Deep.Light
import Derived.Deep.Slices
import Derived.SizedLaws
import Derived.Lib.SmallJoins
namespace Go.Proofs.YtakiimjldccgcabDoor
open Go.ChangeShapes Go.WideShapes Go.ChangeAt Go.RowKit Go.Lib Go.Maps

abbrev zV (z : Int) : Value := .int .i64 z
def I64 (z : Int) : Prop := -9223372036854775808 ≤ z ∧ z ≤ 9223372036854775807
/-- What a number of a kind may be. -/
def Fit (k : IntKind) (z : Int) : Prop := match k with
  | .i8 => C8 z
  | .i64 => I64 z
  | .u8 => 0 ≤ z ∧ z ≤ 255
  | _ => True
/-- A kind's bytes. -/
def kb (k : IntKind) : Nat := match k with
  | .i64 => 8
  | _ => 1
theorem fit0 (k : IntKind) : Fit k 0 := by cases k <;> simp [Fit, C8, I64]
theorem kb_pos (k : IntKind) : 1 ≤ kb k := by cases k <;> simp [kb]
/-- v is a row of these numbers, in a block that p allows. -/
def Rk (k : IntKind) (p : Nat → Prop) (W : World) (v : Value) (zs : List Int) : Prop :=
  ∃ ao cap, v = .slice ao zs.length cap ∧ zs.length * kb k ≤ 140737488351232 ∧
    (zs ≠ [] → ∃ b off, ao = some ⟨b, off, none⟩ ∧ p b ∧ b < W.heap.size ∧ ∀ i, i < zs.length → W.cell? ⟨b, off + i, none⟩ = some (.int k (zs.getD i 0))) ∧
    (∀ z ∈ zs, Fit k z) ∧ (ao = none → cap = 0) ∧ zs.length ≤ cap
theorem Rk.kept {k : IntKind} {p : Nat → Prop} {S : Nat → Prop} {W W' : World} {v : Value} {zs : List Int} (h : Rk k p W v zs) (hk : Kept S W W') (hn : ∀ b, p b → ¬ S b) : Rk k p W' v zs := by
  obtain ⟨ao, cap, hv, hl, hc, hz⟩ := h
  refine ⟨ao, cap, hv, hl, fun h0 => ?_, hz⟩
  obtain ⟨b, off, ha, hp, hb, hcell⟩ := hc h0
  exact ⟨b, off, ha, hp, Nat.lt_of_lt_of_le hb hk.size, fun i hi => (hk.cell (p := ⟨b, off + i, none⟩) hb (hn b hp)).trans (hcell i hi)⟩
theorem Rk.fresh {k : IntKind} {p : Nat → Prop} {W W' : World} {v : Value} {zs : List Int} (h : Rk k p W v zs) (hk : Fresh W W') : Rk k p W' v zs := h.kept hk (fun _ _ e => e)
theorem Rk.mono {k : IntKind} {p q : Nat → Prop} {W : World} {v : Value} {zs : List Int} (h : Rk k p W v zs) (hpq : ∀ b, p b → q b) : Rk k q W v zs := by
  obtain ⟨ao, cap, hv, hl, hc, hz⟩ := h
  exact ⟨ao, cap, hv, hl, fun h0 => let ⟨b, off, ha, hp, r⟩ := hc h0; ⟨b, off, ha, hpq b hp, r⟩, hz⟩
theorem Rk.all {k : IntKind} {p : Nat → Prop} {W : World} {v : Value} {zs : List Int} (h : Rk k p W v zs) : ∀ z ∈ zs, Fit k z := by obtain ⟨_, _, _, _, _, h, _⟩ := h; exact h
theorem fit_get {k : IntKind} {zs : List Int} (h : ∀ z ∈ zs, Fit k z) (i : Nat) : Fit k (zs.getD i 0) := by
  rcases Nat.lt_or_ge i zs.length with e | e
  · rw [getD_getElem e]; exact h _ (List.getElem_mem e)
  · rw [List.getD_eq_getElem?_getD, List.getElem?_eq_none e]; exact fit0 k
theorem Rk.get {k : IntKind} {p : Nat → Prop} {W : World} {v : Value} {zs : List Int} (h : Rk k p W v zs) (i : Nat) : Fit k (zs.getD i 0) := fit_get h.all i
theorem Rk.len {k : IntKind} {p : Nat → Prop} {W : World} {v : Value} {zs : List Int} (h : Rk k p W v zs) : zs.length * kb k ≤ 140737488351232 := by obtain ⟨_, _, _, h, _⟩ := h; exact h
theorem Rk.shape {k : IntKind} {p : Nat → Prop} {W : World} {v : Value} {zs : List Int} (h : Rk k p W v zs) : ∃ ao cap, v = .slice ao zs.length cap ∧ (ao = none → cap = 0) ∧ zs.length ≤ cap := by obtain ⟨ao, cap, h, _, _, _, h', h''⟩ := h; exact ⟨ao, cap, h, h', h''⟩
theorem Rk.many {k : IntKind} {p : Nat → Prop} {W : World} {v : Value} {zs : List Int} (h : Rk k p W v zs) : zs.length ≤ 140737488351232 := by
  have h1 := h.len
  have h2 := Nat.mul_le_mul_left zs.length (kb_pos k)
  omega
/-- The cells of a row whose slice is known. -/
theorem Rk.cells {k : IntKind} {p : Nat → Prop} {w : World} {ao : Option Addr} {n cap : Nat} {zs : List Int} (h : Rk k p w (.slice ao n cap) zs) : zs.length = n ∧ n ≤ cap ∧ (ao = none → cap = 0) ∧ (0 < n → ∃ b off, ao = some ⟨b, off, none⟩ ∧ p b ∧ b < w.heap.size ∧ ∀ i, i < n → w.cell? ⟨b, off + i, none⟩ = some (.int k (zs.getD i 0))) := by
  obtain ⟨ao', cap', hv, _, hc, _, h1, h2⟩ := h
  injection hv with e1 e2 e3
  subst e1
  subst e3
  refine ⟨e2.symm, by omega, h1, fun h0 => ?_⟩
  subst e2
  exact hc (fun e => by rw [e] at h0; simp at h0)
/-- A part of a row. -/
theorem Rk.cut {k : IntKind} {p : Nat → Prop} {w : World} {b off n cap : Nat} {zs : List Int} (h : Rk k p w (.slice (some ⟨b, off, none⟩) n cap) zs) (i m : Nat) (hm : i + m ≤ n) : Rk k p w (.slice (some ⟨b, off + i, none⟩) m (cap - i)) ((zs.drop i).take m) := by
  obtain ⟨hn, hcap, _, hc⟩ := h.cells
  have hl : ((zs.drop i).take m).length = m := by simp; omega
  refine ⟨_, _, by rw [hl], ?_, fun h0 => ?_, fun z hz => h.all z (List.mem_of_mem_drop (List.mem_of_mem_take hz)), fun e => (by cases e), by rw [hl]; omega⟩
  · have := h.len
    have := Nat.mul_le_mul_right (kb k) (show ((zs.drop i).take m).length ≤ zs.length by rw [hl]; omega)
    omega
  · have h1 : 0 < m := by rw [← hl]; exact List.length_pos_iff.2 h0
    obtain ⟨b', off', e, hp, hb, hcell⟩ := hc (by omega)
    cases e
    refine ⟨b, off + i, rfl, hp, hb, fun q hq => ?_⟩
    rw [hl] at hq
    have := hcell (i + q) (by omega)
    rw [Nat.add_assoc, this]
    simp only [List.getD_eq_getElem?_getD]
    rw [List.getElem?_take_of_lt hq, List.getElem?_drop]
theorem kept_drewN (S : Nat → Prop) (w : World) (n : Nat) : Kept S w (w.drewN n) := ⟨rfl, rfl, rfl, Nat.le_refl _, fun _ _ _ => rfl⟩
theorem Kept.drewN {S : Nat → Prop} {a w : World} (h : Kept S a w) (n : Nat) : Kept S a (w.drewN n) := h.trans (kept_drewN S w n) (fun _ _ e => e)

/-- A type of numbers, and that of their slices. -/
structure Ty (k : IntKind) (e s : TypeId) : Prop where
  u : Tryd.prog.underlying s = some (.slice e)
  ue : Tryd.prog.underlying e = some (.int k)
  c : Tryd.prog.cellsOf e = 1
  info : (Tryd.prog.info? e).map (fun i => (i.zero, i.size, i.bytes)) = some (some (.int k 0), 1, kb k)
theorem ty8 : Ty .i8 68 45 := ⟨Tryd.underlying45, Tryd.underlying68, by kernel_rfl, by kernel_rfl⟩
theorem ty64 : Ty .i64 2 106 := ⟨Tryd.underlying106, Tryd.underlying2, by kernel_rfl, by kernel_rfl⟩

theorem ownsRow_shape {w : World} {base : Nat} {e : TypeId} {size : Nat} {v : Value} {n : Nat} {xs : List Value} (h : w.ownsRow base e size v n xs) : ∃ ao cp, v = .slice ao n cp := by
  rcases h.2 with ⟨h, h0⟩ | ⟨g, cap, cur, h, _⟩
  · exact ⟨none, 0, by rw [h, h0]⟩
  · exact ⟨_, cap, h⟩
theorem own_nil (w : World) (B : Nat) (e : TypeId) : w.ownsRow B e 1 (.slice none 0 0) 0 [] := ⟨rfl, .inl ⟨rfl, rfl⟩⟩
theorem own_empty (w : World) (B : Nat) (hB : B ≤ w.heap.size) (e : TypeId) : (w.alloc (.cells #[] e)).ownsRow B e 1 (.slice (some ⟨w.heap.size, 0, none⟩) 0 0) 0 [] :=
  ⟨rfl, .inr ⟨w.heap.size, 0, #[], rfl, hB, heap_alloc_new w _, Nat.le_refl _, Nat.zero_le _, rfl, rfl⟩⟩
/-- A row that is the call's own is a row of numbers. -/
theorem rk_of_own {k : IntKind} {B : Nat} {e : TypeId} {w : World} {v : Value} {n : Nat} {zs : List Int} (h : w.ownsRow B e 1 v n (zs.map (Value.int k))) (hl : zs.length * kb k ≤ 140737488351232) (hz : ∀ z ∈ zs, Fit k z) : Rk k (fun b => B ≤ b ∧ b < w.heap.size) w v zs := by
  have hn : zs.length = n := by have := h.1; simpa using this
  subst hn
  rcases h.2 with ⟨rfl, h0⟩ | ⟨g, cap, cur, rfl, hb, hg, hnc, _⟩
  · have e : zs = [] := List.eq_nil_of_length_eq_zero h0
    subst e
    exact ⟨none, 0, rfl, by simp, fun h => absurd rfl h, by simp, fun _ => rfl, by simp⟩
  · refine ⟨_, cap, rfl, hl, fun _ => ⟨g, 0, rfl, ⟨hb, lt_of_heap hg⟩, lt_of_heap hg, fun i hi => ?_⟩, hz, fun e => (by cases e), hnc⟩
    rw [Nat.zero_add, h.cellAt i (by omega), List.getElem?_map, List.getD_eq_getElem?_getD, List.getElem?_eq_getElem hi]
    rfl
theorem own_block {B : Nat} {e : TypeId} {w : World} {g n c : Nat} {xs : List Value} (h : w.ownsRow B e 1 (.slice (some ⟨g, 0, none⟩) n c) n xs) : B ≤ g ∧ g < w.heap.size ∧ n ≤ c := by
  rcases h.2 with ⟨e, _⟩ | ⟨g', cap', cur, hv, hb, hh, hn, _⟩
  · cases e
  · cases hv; exact ⟨hb, lt_of_heap hh, hn⟩
theorem own_get {B : Nat} {e : TypeId} {w : World} {k : IntKind} {g n c : Nat} {zs : List Int} (h : w.ownsRow B e 1 (.slice (some ⟨g, 0, none⟩) n c) n (zs.map (Value.int k))) (i : Nat) (hi : i < n) : w.cell? ⟨g, i, none⟩ = some (.int k (zs.getD i 0)) := by
  have hn : zs.length = n := by have := h.1; simpa using this
  rw [h.cellAt i (by omega), List.getElem?_map, List.getD_eq_getElem?_getD, List.getElem?_eq_getElem (by omega)]
  rfl
theorem own_setB {w : World} {T : TypeId} {B g n cap i : Nat} {cs : List Value} {x : Value} (h : w.ownsRow B T 1 (.slice (some ⟨g, 0, none⟩) n cap) n cs) : (w.setCell ⟨g, i, none⟩ x).ownsRow B T 1 (.slice (some ⟨g, 0, none⟩) n cap) n (cs.set i x) := by
  obtain ⟨hl, h2⟩ := h
  rcases h2 with ⟨e, _⟩ | ⟨g', cap', cur, hv, hb, hh, hnc, hcm, hsz, htk⟩
  · cases e
  injection hv with e1 _ e3
  injection e1 with e1
  injection e1 with e1
  subst e1
  subst e3
  refine ⟨by rw [List.length_set]; exact hl, .inr ⟨g, cap, _, rfl, hb, Lib.heap_setCell_same hh x (i := i), hnc, hcm, by simpa using hsz, ?_⟩⟩
  rw [Array.toList_setIfInBounds, ← htk, List.take_set]
theorem own_frozen {w : World} {T : TypeId} {B g n cap : Nat} {cs : List Value} (h : w.ownsRow B T 1 (.slice (some ⟨g, 0, none⟩) n cap) n cs) (i : Nat) : w.frozen? ⟨g, i, none⟩ = false := by
  rcases h.2 with ⟨e, _⟩ | ⟨g', cap', cur, hv, hb, hh, hnc, hcm, hsz, htk⟩
  · cases e
  injection hv with e1 _ e3
  injection e1 with e1
  injection e1 with e1
  subst e1
  exact Lib.frozen_of_heap hh i
theorem own_low {w : World} {base B : Nat} {e : TypeId} {size : Nat} {v : Value} {n : Nat} {xs : List Value} (h : w.ownsRow base e size v n xs) (hB : B ≤ base) : w.ownsRow B e size v n xs := by
  obtain ⟨h1, h2⟩ := h
  refine ⟨h1, ?_⟩
  rcases h2 with h2 | ⟨g, cap, cur, hv, hb, r⟩
  · exact Or.inl h2
  · exact Or.inr ⟨g, cap, cur, hv, Nat.le_trans hB hb, r⟩
theorem made_zeros (k : IntKind) (n : Nat) : madeCells (Value.int k 0).cells (n * 1) = ((List.replicate n (0 : Int)).map (Value.int k)).toArray := by
  rw [Nat.mul_one]
  have h : ∀ x : Nat, (Value.int k 0).cells[x % (Value.int k 0).cells.size]! = Value.int k 0 := fun x => by
    have : x % (Value.int k 0).cells.size = 0 := Nat.mod_one x
    rw [this]; rfl
  unfold madeCells
  simp only [h]
  apply Array.ext'
  simp [List.map_const']
/-- make([]T, n, c). -/
theorem run_mk {k : IntKind} {e s : TypeId} (ht : Ty k e s) (n c : Nat) (hnc : n ≤ c) (hc : c * kb k ≤ 140737488351232) (W : World) :
    (Instr.makeSlice s (.int .i64 (n : Int)) (.int .i64 (c : Int))).run Tryd.prog W = .ok (.slice (some ⟨W.heap.size, 0, none⟩) n c) (W.alloc (.cells ((List.replicate c (0 : Int)).map (Value.int k)).toArray e)) := by
  obtain ⟨i0, hi, hz0, hz1, hz2⟩ := info_parts ht.info
  have hk := kb_pos k
  have hcc : c ≤ 140737488351232 := Nat.le_trans (Nat.le_mul_of_pos_right c hk) hc
  have hc' : ((kb k * c : Nat) : Int) ≤ 140737488351232 := by rw [Nat.mul_comm]; omega
  rw [Int.natCast_mul] at hc'
  have h := run_make (P := Tryd.prog) W s e i0 _ ht.u hi hz0 .i64 .i64 (n : Int) (c : Int) (by omega) (by omega) (by rw [hz2]; omega) (by omega)
  rw [hz1] at h
  simp only [Int.toNat_natCast] at h
  rw [made_zeros] at h
  exact h
theorem own_made (k : IntKind) (e : TypeId) (W : World) (B : Nat) (hB : B ≤ W.heap.size) (n c : Nat) (hnc : n ≤ c) (hc : c ≤ 140737488351232) :
    (W.alloc (.cells ((List.replicate c (0 : Int)).map (Value.int k)).toArray e)).ownsRow B e 1 (.slice (some ⟨W.heap.size, 0, none⟩) n c) n ((List.replicate n (0 : Int)).map (Value.int k)) :=
  ⟨by simp, .inr ⟨W.heap.size, c, _, rfl, hB, heap_alloc_new W _, hnc, by unfold maxLen; omega, by simp, by simp [List.take_replicate, Nat.min_eq_left hnc]⟩⟩
/-- append(v0, row...). -/
theorem twin {k : IntKind} {e s : TypeId} (ht : Ty k e s) (ty : TypeId) (W : World) (B : Nat) (v0 : Value) (xs : List Int) (hown : W.ownsRow B e 1 v0 xs.length (xs.map (Value.int k))) (hB : B ≤ W.heap.size) (rv : Value) (zs : List Int) (p : Nat → Prop) (hr : Rk k p W rv zs) (hx : (xs.length + zs.length) * kb k ≤ 140737488351232) :
    ∃ tv W', (Builtin.append_ #[s, s] ty #[v0, rv]).run Tryd.prog W = .ok tv W' ∧ W'.ownsRow B e 1 tv (xs.length + zs.length) ((xs ++ zs).map (Value.int k)) ∧ W.grownBy W' v0.ownBlock := by
  obtain ⟨i0, hi, hz0, hz1, hz2⟩ := info_parts ht.info
  have hk := kb_pos k
  have hx2 : xs.length + zs.length ≤ 140737488351232 := Nat.le_trans (Nat.le_mul_of_pos_right _ hk) hx
  obtain ⟨ao, cap, rfl, hzl, hcell, _, hn, _⟩ := hr
  cases ao with
  | none =>
    have e : zs = [] := by
      rcases zs with _ | ⟨z, r⟩
      · rfl
      · obtain ⟨b, off, h, _⟩ := hcell (by simp)
        cases h
    subst e
    rw [hn rfl]
    exact ⟨v0, W, run_append_owned_none (P := Tryd.prog) W B _ _ _ i0 1 ht.u hi v0 _ _ hown, by simpa using hown, ⟨rfl, rfl, rfl, Nat.le_refl _, fun _ _ _ => rfl⟩⟩
  | some a =>
    obtain ⟨v', w', h1, h2, h3, _⟩ := run_append_own (P := Tryd.prog) W B s ty e i0 (.int k 0) 1 (kb k) ht.u hi hz0 hz1 hz2 rfl (by omega) v0 _ _ hown a zs.length cap (zs.map (Value.int k)) (by simp)
      (fun j u hj => by
        have hj' : j < zs.length := by have := (List.getElem?_eq_some_iff.1 hj).1; simpa using this
        obtain ⟨b, off, h, _, _, hc⟩ := hcell (fun e => by rw [e] at hj'; simp at hj')
        simp only [Option.some.injEq] at h
        subst h
        rw [List.getElem?_map, List.getElem?_eq_getElem hj'] at hj
        simp only [Option.map_some, Option.some.injEq] at hj
        have := hc j hj'
        rw [List.getD_eq_getElem?_getD, List.getElem?_eq_getElem hj'] at this
        rw [← hj, Addr.add_lit]
        exact this)
      (fun u hu => by obtain ⟨_, _, rfl⟩ := List.mem_map.1 hu; rfl) (by unfold maxLen; omega) (by omega) hB
    exact ⟨v', w', h1, by rw [List.map_append]; exact h2, h3⟩
/-- One number behind a row of one's own. -/
theorem push {k : IntKind} {e s : TypeId} (ht : Ty k e s) (X : World) (B g c j : Nat) (xs : List Int) (x : Int) (hown : X.ownsRow B e 1 (.slice (some ⟨g, 0, none⟩) j c) j (xs.map (Value.int k))) (hj : (j + 1) * kb k ≤ 140737488355328) (hB : B ≤ X.heap.size) :
    ∃ g' c' X', (Builtin.append_ #[s, s] s #[.slice (some ⟨g, 0, none⟩) j c, .slice (some ⟨X.heap.size, 0, none⟩) 1 1]).run Tryd.prog (X.alloc (.cells #[.int k x] e)) = .ok (.slice (some ⟨g', 0, none⟩) (j + 1) c') X' ∧
      X'.ownsRow B e 1 (.slice (some ⟨g', 0, none⟩) (j + 1) c') (j + 1) ((xs ++ [x]).map (Value.int k)) ∧ (g' = g ∨ g' = X.heap.size + 1) ∧ Kept (fun b => b = g) X X' := by
  obtain ⟨i0, hi0, hz0, hz1, hz2⟩ := info_parts ht.info
  have hk := kb_pos k
  have hx2 : j + 1 ≤ 140737488355328 := Nat.le_trans (Nat.le_mul_of_pos_right _ hk) hj
  have hY : (X.alloc (.cells #[.int k x] e)).ownsRow B e 1 (.slice (some ⟨g, 0, none⟩) j c) j (xs.map (Value.int k)) := owns_kept hown ((Kept.refl (fun _ => False) X).alloc _) (fun _ _ e => e)
  obtain ⟨v', w', hrun, ho, hg, _, hb⟩ := run_append_own_at (P := Tryd.prog) (X.alloc (.cells #[.int k x] e)) B s s e i0 _ 1 (kb k) ht.u hi0 hz0 hz1 hz2 rfl (by omega) _ j _ hY ⟨X.heap.size, 0, none⟩ 1 1 [.int k x] rfl (fun q u hq => cell_one_new X (.int k x) e q u hq) (fun u hu => by simp at hu; subst hu; rfl) (by unfold maxLen; omega) hj (by simp; omega)
  obtain ⟨g', c', rfl⟩ : ∃ g' c', v' = .slice (some ⟨g', 0, none⟩) (j + 1) c' := by
    rcases ho.2 with ⟨_, e⟩ | ⟨g', cap', cur, hv, _⟩
    · omega
    · exact ⟨g', cap', hv⟩
  refine ⟨g', c', w', hrun, by rw [List.map_append]; exact ho, ?_, ?_⟩
  · simp [Value.ownBlock] at hb
    exact hb
  · exact ((Kept.refl (fun b => b = g) X).alloc _).grown hg (fun q _ e => by simp [Value.ownBlock] at e; exact e.symm)
theorem fit_of {k : IntKind} {z : Int} (h : (Lit.int k z).wf = true) : Fit k z := by
  cases k with
  | i8 => have := bounds_i8 h; exact ⟨by omega, by omega⟩
  | i64 => have := bounds_i64 h; exact ⟨by omega, by omega⟩
  | u8 => have := bounds_u8 h; exact ⟨by omega, by omega⟩
  | _ => trivial
/-- A slice of numbers, out of its reading. -/
theorem row_of {k : IntKind} {e s : TypeId} (ht : Ty k e s) {H : Type} {enc : TypeId × Value → H} {W : World} {fuel : Nat} {v : Value} {x : DataW H × List MemPlace} (h : DataW.trod enc Tryd.prog W 0 (fun _ => true) true fuel s [v] = some x)
    (hsz : ∀ es sp, x.1 = .slice es sp → es.length * kb k ≤ 140737488351232) : ∃ zs : List Int, Rk k (fun b => b < W.heap.size) W v zs ∧ (x.1 = .nil ∧ zs = [] ∨ ∃ sp, x.1 = .slice (lits k zs) sp) := by
  rcases open_ints ht.u ht.ue ht.c h with ⟨hcs, hx⟩ | ⟨a, len, cap, zs, hcs, _, hl, hm, hz, hx, hcell, hwz⟩
  · refine ⟨[], ⟨none, 0, by simpa using hcs, by simp, fun h0 => absurd rfl h0, by simp, fun _ => rfl, by simp⟩, .inl ⟨by rw [hx], rfl⟩⟩
  · simp only [if_true] at hz
    have htl : (zs.take len).length = len := by rw [List.length_take]; omega
    refine ⟨zs.take len, ⟨some a, cap, ?_, ?_, fun h0 => ?_, ?_, fun e => (by cases e), by rw [htl]; omega⟩, .inr ⟨_, by rw [hx]⟩⟩
    · rw [htl]; simpa using hcs
    · have := hsz _ _ (by rw [hx])
      simpa [lits] using this
    · have hpos : 0 < len := by
        rcases Nat.eq_zero_or_pos len with e | e
        · subst e; simp at h0
        · exact e
      obtain ⟨b, off, rfl, hc⟩ := ints_at hcell (by omega)
      refine ⟨b, off, rfl, ?_, ?_, fun i hi => ?_⟩
      · have := World.block_lt_of_cell? W _ (hc 0 (by omega)); simpa using this
      · have := World.block_lt_of_cell? W _ (hc 0 (by omega)); simpa using this
      · rw [htl] at hi
        rw [hc i (by omega), List.getD_eq_getElem?_getD, List.getD_eq_getElem?_getD, List.getElem?_take_of_lt hi]
    · intro z hzm
      exact fit_of (hwz z (List.mem_of_mem_take hzm))
end Go.Proofs.YtakiimjldccgcabDoor

/-
  What functions that make lists of numbers leave; lists of rows.
-/
namespace Go.Proofs.YtakiimjldccgcabDoor
open Go.ChangeShapes Go.WideShapes Go.ChangeAt Go.RowKit Go.Lib Go.Maps Go.Joins

theorem wrap_i64 {x : Int} (h : I64 x) : wrap64 x = x := by unfold wrap64; obtain ⟨a, b⟩ := h; omega
/-- What a function that makes a list of numbers leaves: the list, in memory of its own, and an error. -/
def Gives (k : IntKind) (e : TypeId) (L : List Int) (E : Int) (w : World) (x : Ending) (w' : World) : Prop :=
  ∃ v, x = .returned (.tuple #[v, zV E]) ∧ w'.ownsRow w.heap.size e 1 v L.length (L.map (Value.int k)) ∧ Fresh w w'
theorem Gives.none (k : IntKind) (e : TypeId) (E : Int) (w : World) : Gives k e [] E w (.returned (.tuple #[.slice none 0 0, zV E])) w := ⟨_, rfl, own_nil _ _ _, Kept.refl _ _⟩

theorem Rk.low {k : IntKind} {p : Nat → Prop} {W : World} {v : Value} {zs : List Int} (h : Rk k p W v zs) : Rk k (fun b => b < W.heap.size) W v zs := by
  obtain ⟨ao, cap, hv, hl, hc, hz⟩ := h
  exact ⟨ao, cap, hv, hl, fun h0 => let ⟨b, off, ha, hp, hb, r⟩ := hc h0; ⟨b, off, ha, hb, hb, r⟩, hz⟩
theorem Gives.row {k : IntKind} {e : TypeId} {L : List Int} {E : Int} {w w' : World} {x : Ending} (h : Gives k e L E w x w') (hl : L.length * kb k ≤ 140737488351232) (hz : ∀ z ∈ L, Fit k z) : ∃ v, x = .returned (.tuple #[v, zV E]) ∧ Rk k (fun b => w.heap.size ≤ b ∧ b < w'.heap.size) w' v L ∧ Fresh w w' := by
  obtain ⟨v, h1, h2, h3⟩ := h
  exact ⟨v, h1, rk_of_own h2 hl hz, h3⟩
theorem map_snoc (l : List Int) (f : Int → Int) {j : Nat} (h : j < l.length) : (l.map f).take (j + 1) = (l.map f).take j ++ [f (l.getD j 0)] := by
  rw [List.take_succ_eq_append_getElem (by simpa using h), List.getElem_map, getD_getElem h]
theorem set_at {P : List Int} {m : Nat} {y : Int} {j : Nat} (hj : P.length = j) : (P ++ List.replicate (m + 1) 0).set j y = (P ++ [y]) ++ List.replicate m 0 := by
  rw [List.set_append_right _ _ (by omega), hj, Nat.sub_self, List.replicate_succ, List.set_cons_zero, List.append_assoc]
  rfl
theorem sized_field {H : Type} {P : Program} {ts : List TypeId} {ds : List (DataW H)} (h : (DataW.weightsEach P ts ds).all (· ≤ reachBytes) = true) {j : Nat} {t : TypeId} {fs : Array Field} {parts : List (DataW H)} (ht : ts[j]? = some t) (hd : ds[j]? = some (.agg parts)) (hu : P.underlying t = some (.struct fs)) :
    (DataW.weightsEach P (fs.toList.map (·.type)) parts).all (· ≤ reachBytes) = true := by
  rw [List.all_eq_true] at h ⊢
  intro x hx
  exact h x (DataW.weights_mem_each ht hd x (by simp only [DataW.weights, hu]; exact hx))
theorem weightsAll_mem {H : Type} {P : Program} {e : TypeId} : ∀ {ds : List (DataW H)} {d : DataW H}, d ∈ ds → ∀ n ∈ d.weights P e, n ∈ DataW.weightsAll P e ds
  | d0 :: ds, d, hd, n, hn => by
    simp only [DataW.weightsAll, List.mem_append]
    rcases List.mem_cons.1 hd with e | e
    · subst e; exact .inl hn
    · exact .inr (weightsAll_mem e n hn)
theorem sized_inner {H : Type} {P : Program} {ts : List TypeId} {ds : List (DataW H)} (h : (DataW.weightsEach P ts ds).all (· ≤ reachBytes) = true) {j : Nat} {t e q : TypeId} {elems spare e' sp' : List (DataW H)}
    (ht : ts[j]? = some t) (hd : ds[j]? = some (.slice elems spare)) (hu : P.underlying t = some (.slice e)) (hu2 : P.underlying e = some (.slice q)) (hx : DataW.slice e' sp' ∈ elems) : (e'.length + sp'.length) * P.bytesOf q ≤ reachBytes := by
  refine of_decide_eq_true (List.all_eq_true.1 h _ (DataW.weights_mem_each ht hd _ ?_))
  simp only [DataW.weights, hu, List.mem_cons, List.mem_append]
  exact Or.inr (Or.inl (weightsAll_mem hx _ (by simp [DataW.weights, hu2])))

/-- v is a list of rows. -/
def LL (k : IntKind) (p : Nat → Prop) (W : World) (v : Value) (L : List (List Int)) : Prop :=
  ∃ ao cap, v = .slice ao L.length cap ∧ L.length * 24 ≤ 140737488351232 ∧
    (L ≠ [] → ∃ b off, ao = some ⟨b, off, none⟩ ∧ p b ∧ b < W.heap.size ∧ ∀ i, i < L.length → ∃ u, W.cell? ⟨b, off + i, none⟩ = some u ∧ Rk k p W u (L.getD i [])) ∧ (ao = none → cap = 0) ∧ L.length ≤ cap
theorem LL.kept {k : IntKind} {p : Nat → Prop} {S : Nat → Prop} {W W' : World} {v : Value} {L : List (List Int)} (h : LL k p W v L) (hk : Kept S W W') (hn : ∀ b, p b → ¬ S b) : LL k p W' v L := by
  obtain ⟨ao, cap, hv, hl, hc, hz⟩ := h
  refine ⟨ao, cap, hv, hl, fun h0 => ?_, hz⟩
  obtain ⟨b, off, ha, hp, hb, hcell⟩ := hc h0
  exact ⟨b, off, ha, hp, Nat.lt_of_lt_of_le hb hk.size, fun i hi => let ⟨u, h1, h2⟩ := hcell i hi; ⟨u, (hk.cell (p := ⟨b, off + i, none⟩) hb (hn b hp)).trans h1, h2.kept hk hn⟩⟩
theorem LL.fresh {k : IntKind} {p : Nat → Prop} {W W' : World} {v : Value} {L : List (List Int)} (h : LL k p W v L) (hk : Fresh W W') : LL k p W' v L := h.kept hk (fun _ _ e => e)
theorem LL.mono {k : IntKind} {p q : Nat → Prop} {W : World} {v : Value} {L : List (List Int)} (h : LL k p W v L) (hpq : ∀ b, p b → q b) : LL k q W v L := by
  obtain ⟨ao, cap, hv, hl, hc, hz⟩ := h
  exact ⟨ao, cap, hv, hl, fun h0 => let ⟨b, off, ha, hp, hb, r⟩ := hc h0; ⟨b, off, ha, hpq b hp, hb, fun i hi => let ⟨u, h1, h2⟩ := r i hi; ⟨u, h1, h2.mono hpq⟩⟩, hz⟩
theorem LL.shape {k : IntKind} {p : Nat → Prop} {W : World} {v : Value} {L : List (List Int)} (h : LL k p W v L) : ∃ ao cap, v = .slice ao L.length cap ∧ (ao = none → cap = 0) ∧ L.length ≤ cap := by obtain ⟨ao, cap, h, _, _, h', h''⟩ := h; exact ⟨ao, cap, h, h', h''⟩
theorem LL.many {k : IntKind} {p : Nat → Prop} {W : World} {v : Value} {L : List (List Int)} (h : LL k p W v L) : L.length * 24 ≤ 140737488351232 := by obtain ⟨_, _, _, h, _⟩ := h; exact h
theorem LL.cells {k : IntKind} {p : Nat → Prop} {w : World} {ao : Option Addr} {n cap : Nat} {L : List (List Int)} (h : LL k p w (.slice ao n cap) L) : L.length = n ∧ n ≤ cap ∧ (0 < n → ∃ b off, ao = some ⟨b, off, none⟩ ∧ p b ∧ b < w.heap.size ∧ ∀ i, i < n → ∃ u, w.cell? ⟨b, off + i, none⟩ = some u ∧ Rk k p w u (L.getD i [])) := by
  obtain ⟨ao', cap', hv, _, hc, h1, h2⟩ := h
  injection hv with e1 e2 e3
  subst e1
  subst e3
  refine ⟨e2.symm, by omega, fun h0 => ?_⟩
  subst e2
  exact hc (fun e => by rw [e] at h0; simp at h0)
theorem Gives.from {k : IntKind} {e : TypeId} {L : List Int} {E : Int} {w wr w' : World} {x : Ending} (h : Gives k e L E wr x w') (hF : Fresh w wr) : Gives k e L E w x w' := by
  obtain ⟨v, h1, h2, h3⟩ := h
  exact ⟨v, h1, own_low h2 hF.size, hF.trans h3 (fun _ _ e => e)⟩
end Go.Proofs.YtakiimjldccgcabDoor

/-
  Rows made by a rule.
-/
namespace Go.Proofs.YtakiimjldccgcabDoor

/-- The row of f at 0, 1, .. -/
def mkL (n : Nat) (f : Nat → Int) : List Int := (List.range n).map f
theorem mkL_len (n : Nat) (f : Nat → Int) : (mkL n f).length = n := by simp [mkL]
theorem mkL_succ (n : Nat) (f : Nat → Int) : mkL (n + 1) f = mkL n f ++ [f n] := by simp [mkL, List.range_succ]
theorem mkL_get {n : Nat} {f : Nat → Int} {i : Nat} (h : i < n) : (mkL n f).getD i 0 = f i := by
  rw [List.getD_eq_getElem?_getD]; simp [mkL, h]
theorem mkL_mem {n : Nat} {f : Nat → Int} {z : Int} (h : z ∈ mkL n f) : ∃ i, i < n ∧ z = f i := by
  simp only [mkL, List.mem_map, List.mem_range] at h
  obtain ⟨i, h1, h2⟩ := h
  exact ⟨i, h1, h2.symm⟩
theorem mkL_take {zs : List Int} : mkL zs.length (fun i => zs.getD i 0) = zs := by
  apply List.ext_getElem
  · simp [mkL]
  · intro i h1 h2
    simp [mkL, List.getD_eq_getElem?_getD, List.getElem?_eq_getElem h2]
end Go.Proofs.YtakiimjldccgcabDoor
