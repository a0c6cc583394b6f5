/-
  Rows of numbers of 8 bits that calls made: three of them, each maybe nil, held in a row of rows.
-/
import Derived.Test.YtmkaafnoanidpaaDoorLQuant
namespace Go.Proofs.YtmkaafnoanidpaaDoor.SMem
open Go.RowKit

abbrev only (b : Nat) : Nat → Prop := fun k => k = b
/-- The cells of a row of numbers of 8 bits. -/
abbrev c8 (zs : List Int) : List Value := zs.map (Value.int .i8)
abbrev sl (a : Option Addr) (m : Nat) : Value := .slice a m m

/-- Three rows, and the row kb of these. -/
structure K3 (B : Nat) (w : World) (kb : Nat) (af : Nat → Option Addr) (m : Nat) (f : Nat → List Int) : Prop where
  lt : kb < w.heap.size
  at_ : ∀ t, t < 3 → w.cell? ⟨kb, t, none⟩ = some (sl (af t) m)
  row : ∀ t, t < 3 → w.ownsRow B 37 1 (sl (af t) m) m (c8 (f t))
  inj : ∀ t u g, t < 3 → u < 3 → (sl (af t) m).ownBlock = some g → (sl (af u) m).ownBlock = some g → t = u
  off : ∀ t, t < 3 → (sl (af t) m).ownBlock ≠ some kb
theorem K3.kept {S : Nat → Prop} {B : Nat} {w w' : World} {kb : Nat} {af : Nat → Option Addr} {m : Nat} {f : Nat → List Int} (h : K3 B w kb af m f) (hk : Kept S w w') (h1 : ¬ S kb) (h2 : ∀ t g, t < 3 → (sl (af t) m).ownBlock = some g → ¬ S g) : K3 B w' kb af m f :=
  ⟨Nat.lt_of_lt_of_le h.lt hk.size, fun t ht => (hk.cell (p := ⟨kb, t, none⟩) h.lt h1).trans (h.at_ t ht), fun t ht => owns_kept (h.row t ht) hk (fun g e => h2 t g ht e), h.inj, h.off⟩
theorem K3.len {B : Nat} {w : World} {kb : Nat} {af : Nat → Option Addr} {m : Nat} {f : Nat → List Int} (h : K3 B w kb af m f) (t : Nat) (ht : t < 3) : (f t).length = m := by
  have := (h.row t ht).1
  simpa using this
/-- A row that is not empty has a block. -/
theorem K3.blk {B : Nat} {w : World} {kb : Nat} {af : Nat → Option Addr} {m : Nat} {f : Nat → List Int} (h : K3 B w kb af m f) (t : Nat) (ht : t < 3) (hm : 0 < m) : ∃ b, af t = some ⟨b, 0, none⟩ ∧ B ≤ b ∧ b < w.heap.size := by
  have hr := h.row t ht
  obtain ⟨_, ⟨_, h0⟩ | ⟨g, cap, cur, hv, hg, hh, _⟩⟩ := hr
  · omega
  · simp only [sl, Value.slice.injEq] at hv
    exact ⟨g, hv.1, hg, lt_of_heap hh⟩
theorem K3.set {B : Nat} {w : World} {kb : Nat} {af : Nat → Option Addr} {m : Nat} {f : Nat → List Int} (h : K3 B w kb af m f) (t : Nat) (ht : t < 3) (b : Nat) (hb : af t = some ⟨b, 0, none⟩) (j : Nat) (z : Int) :
    K3 B (w.setCell ⟨b, j, none⟩ (.int .i8 z)) kb af m (fun k => if k = t then (f t).set j z else f k) := by
  have hk : Kept (only b) w (w.setCell ⟨b, j, none⟩ (.int .i8 z)) := (Kept.refl (only b) w).setCell (p := ⟨b, j, none⟩) (fun _ => rfl) _
  have ob : (sl (af t) m).ownBlock = some b := by rw [hb]; rfl
  refine ⟨Nat.lt_of_lt_of_le h.lt hk.size, fun u hu => (hk.cell (p := ⟨kb, u, none⟩) h.lt (fun e => h.off t ht (by rw [ob]; exact congrArg some e.symm))).trans (h.at_ u hu), fun u hu => ?_, h.inj, h.off⟩
  by_cases e : u = t
  · subst e
    simp only [if_true]
    have hr := h.row u hu
    rw [hb] at hr ⊢
    have := (World.ownsRow.stored hr j (.int .i8 z)).1
    unfold c8
    rw [List.map_set]
    exact this
  · simp only [if_neg e]
    exact owns_kept (h.row u hu) hk (fun g eg x => e (h.inj u t b hu ht (by have x' : g = b := x; rw [← x']; exact eg) ob))
theorem K3.cell {B : Nat} {w : World} {kb : Nat} {af : Nat → Option Addr} {m : Nat} {f : Nat → List Int} (h : K3 B w kb af m f) (t : Nat) (ht : t < 3) (b : Nat) (hb : af t = some ⟨b, 0, none⟩) (j : Nat) (hj : j < m) :
    w.cell? ⟨b, j, none⟩ = some (.int .i8 ((f t).getD j 0)) ∧ w.frozen? ⟨b, j, none⟩ = false := by
  have hl := h.len t ht
  have hr := h.row t ht
  rw [hb] at hr
  refine ⟨?_, World.ownsRow.frozenAt hr j⟩
  rw [World.ownsRow.cellAt hr j (by omega), List.getElem?_map, List.getD_eq_getElem?_getD, List.getElem?_eq_getElem (by omega)]
  rfl
theorem K3.congr {B : Nat} {w : World} {kb : Nat} {af : Nat → Option Addr} {m : Nat} {f g : Nat → List Int} (h : K3 B w kb af m f) (e : ∀ k, k < 3 → f k = g k) : K3 B w kb af m g :=
  ⟨h.lt, h.at_, fun t ht => by rw [← e t ht]; exact h.row t ht, h.inj, h.off⟩

theorem take_set_next {zs : List Int} {u : Nat} {z : Int} (hu : u < zs.length) (h : zs.take u = List.replicate u z) : (zs.set u z).take (u + 1) = List.replicate (u + 1) z := by
  rw [List.take_succ_eq_append_getElem (by rw [List.length_set]; exact hu), List.take_set_of_le (by omega), h, List.getElem_set_self, List.replicate_succ']

/-- The three rows stand. -/
theorem K3.of {B : Nat} {w : World} {kv : Value} {af : Nat → Option Addr} {m : Nat} {zs : List Int} (hown : w.ownsRow B 28 1 kv 3 ((List.range 3).map fun t => sl (af t) m))
    (hrw : ∀ t, t < 3 → w.ownsRow B 37 1 (sl (af t) m) m (c8 zs)) (hinj : ∀ t u g, t < 3 → u < 3 → (sl (af t) m).ownBlock = some g → (sl (af u) m).ownBlock = some g → t = u) (hoff : ∀ t g, t < 3 → kv.ownBlock = some g → (sl (af t) m).ownBlock ≠ some g) :
    ∃ kb cap, kv = .slice (some ⟨kb, 0, none⟩) 3 cap ∧ B ≤ kb ∧ K3 B w kb af m (fun _ => zs) := by
  have hown' := hown
  obtain ⟨_, ⟨_, h⟩ | ⟨kb, cap, cur, rfl, hB, _⟩⟩ := hown'
  · omega
  · refine ⟨kb, cap, rfl, hB, owns_lt hown rfl, fun t ht => ?_, hrw, hinj, fun t ht e => hoff t kb ht rfl e⟩
    rw [hown.cellAt t (by omega), List.getElem?_map, List.getElem?_range ht]
    rfl
theorem rng_next (j m : Nat) (g : Option Addr) (af : Nat → Option Addr) : ((List.range (j + 1)).map fun t => sl (if t = j then g else af t) m) = ((List.range j).map fun t => sl (af t) m) ++ [sl g m] := by
  rw [List.range_succ, List.map_append, List.map_cons, List.map_nil, if_pos rfl]
  congr 1
  refine List.map_congr_left fun t ht => ?_
  rw [if_neg (by have := List.mem_range.1 ht; omega)]
theorem Tryd.infoR : (Tryd.prog.info? 28).map (fun i => (i.zero, i.size, i.bytes)) = some (some (.slice none 0 0), 1, 24) := by kernel_rfl

theorem fresh_grown {w w0 w1 : World} {B : Nat} {v : Value} {n : Nat} {xs : List Value} {e : TypeId} {size : Nat} (hk : Fresh w w0) (hown : w0.ownsRow B e size v n xs) (hB : w.heap.size ≤ B) {o : Obj} (hg : (w0.alloc o).grownBy w1 v.ownBlock) : Fresh w w1 := by
  refine (hk.alloc o).grown hg (fun k hk e => ?_)
  rcases hown.2 with ⟨rfl, _⟩ | ⟨g, cap, cur, rfl, hb, _⟩
  · simp [Value.ownBlock] at e
  · simp [Value.ownBlock] at e; omega
/-- A made row, by its address. -/
theorem made_row {B : Nat} {w : World} {v : Value} {zs : List Int} (h : v = .slice none 0 0 ∧ zs = [] ∨ ∃ g, v = .slice (some ⟨g, 0, none⟩) zs.length zs.length ∧ B ≤ g ∧ w.ownsRow B 37 1 v zs.length (zs.map (Value.int .i8))) :
    ∃ a, v = sl a zs.length ∧ w.ownsRow B 37 1 (sl a zs.length) zs.length (c8 zs) ∧ ∀ g, (sl a zs.length).ownBlock = some g → B ≤ g := by
  rcases h with ⟨rfl, rfl⟩ | ⟨g, rfl, hg, ho⟩
  · exact ⟨none, rfl, World.ownsRow_nil _ _ _ _, fun g e => by simp [Value.ownBlock] at e⟩
  · exact ⟨_, rfl, ho, fun k e => by simp [Value.ownBlock] at e; omega⟩
theorem own_cells {w : World} {base : Nat} {e : TypeId} {size : Nat} {a : Option Addr} {m n : Nat} {xs : List Value} (h : w.ownsRow base e size (sl a m) n xs) : ∀ b, a = some b → ∀ j u, xs[j]? = some u → w.cell? (b.add j) = some u := by
  intro b hb
  subst hb
  have h' := h
  rcases h'.2 with ⟨h1, _⟩ | ⟨g, cap, cur, h1, _⟩
  · cases h1
  · simp only [sl, Value.slice.injEq, Option.some.injEq] at h1
    obtain ⟨rfl, _⟩ := h1
    exact World.ownsRow.cells h rfl
theorem own_none {w : World} {base : Nat} {e : TypeId} {size : Nat} {a : Option Addr} {m : Nat} {xs : List Value} (h : w.ownsRow base e size (sl a m) m xs) (ha : a = none) : m = 0 ∧ m = 0 := by
  subst ha
  rcases h.2 with ⟨_, h0⟩ | ⟨g, cap, cur, h1, _⟩
  · exact ⟨h0, h0⟩
  · cases h1
end Go.Proofs.YtmkaafnoanidpaaDoor.SMem
