/-
  Rows of numbers of 8 bits that a call made for itself: three of them, held in a row of rows.
-/
import Derived.Test.YtcdgphneljgooabDoorRc
import Derived.Test.YtcdgphneljgooabDoorWe
import Derived.Test.YtcdgphneljgooabDoorAwake
namespace Go.Proofs.YtcdgphneljgooabDoor.Memo
open Go.RowKit

/-- The cells of a row of numbers of 8 bits. -/
abbrev c8 (zs : List Int) : List Value := zs.map (Value.int .i8)
/-- The block b is a row of m numbers, the numbers zs. -/
def Rw (B : Nat) (w : World) (m b : Nat) (zs : List Int) : Prop := w.ownsRow B 47 1 (.slice (some ⟨b, 0, none⟩) m m) m (c8 zs)
theorem Rw.len {B : Nat} {w : World} {m b : Nat} {zs : List Int} (h : Rw B w m b zs) : zs.length = m := by have := h.1; simpa using this
theorem Rw.lt {B : Nat} {w : World} {m b : Nat} {zs : List Int} (h : Rw B w m b zs) : b < w.heap.size := owns_lt h rfl
theorem Rw.ge {B : Nat} {w : World} {m b : Nat} {zs : List Int} (h : Rw B w m b zs) : B ≤ b := (World.ownsRow.lt h b rfl).1
theorem Rw.kept {S : Nat → Prop} {B : Nat} {w w' : World} {m b : Nat} {zs : List Int} (h : Rw B w m b zs) (hk : Kept S w w') (hb : ¬ S b) : Rw B w' m b zs :=
  owns_kept h hk (fun g e => by simp [Value.ownBlock] at e; subst e; exact hb)
theorem Rw.cell {B : Nat} {w : World} {m b : Nat} {zs : List Int} (h : Rw B w m b zs) (j : Nat) (hj : j < m) : w.cell? ⟨b, j, none⟩ = some (.int .i8 (zs.getD j 0)) := by
  have hl := h.len
  have := World.ownsRow.cellAt h j (by omega)
  rw [this, List.getElem?_map, List.getD_eq_getElem?_getD, List.getElem?_eq_getElem (by omega)]
  rfl
theorem Rw.free {B : Nat} {w : World} {m b : Nat} {zs : List Int} (h : Rw B w m b zs) (j : Nat) : w.frozen? ⟨b, j, none⟩ = false := World.ownsRow.frozenAt h j
theorem Rw.set {B : Nat} {w : World} {m b : Nat} {zs : List Int} (h : Rw B w m b zs) (j : Nat) (z : Int) : Rw B (w.setCell ⟨b, j, none⟩ (.int .i8 z)) m b (zs.set j z) := by
  have := (World.ownsRow.stored h j (.int .i8 z)).1
  unfold Rw c8
  rw [List.map_set]
  exact this

/-- Three rows, and the row kb of these. -/
structure K3 (B : Nat) (w : World) (kb : Nat) (bf : Nat → Nat) (m : Nat) (f : Nat → List Int) : Prop where
  lt : kb < w.heap.size
  at_ : ∀ t, t < 3 → w.cell? ⟨kb, t, none⟩ = some (.slice (some ⟨bf t, 0, none⟩) m m)
  row : ∀ t, t < 3 → Rw B w m (bf t) (f t)
  inj : ∀ t u, t < 3 → u < 3 → bf t = bf u → t = u
  off : ∀ t, t < 3 → bf t ≠ kb
theorem K3.kept {S : Nat → Prop} {B : Nat} {w w' : World} {kb : Nat} {bf : Nat → Nat} {m : Nat} {f : Nat → List Int} (h : K3 B w kb bf m f) (hk : Kept S w w') (h1 : ¬ S kb) (h2 : ∀ t, t < 3 → ¬ S (bf t)) : K3 B w' kb bf m f :=
  ⟨Nat.lt_of_lt_of_le h.lt hk.size, fun t ht => (hk.cell (p := ⟨kb, t, none⟩) h.lt h1).trans (h.at_ t ht), fun t ht => (h.row t ht).kept hk (h2 t ht), h.inj, h.off⟩
theorem K3.set {B : Nat} {w : World} {kb : Nat} {bf : Nat → Nat} {m : Nat} {f : Nat → List Int} (h : K3 B w kb bf m f) (t : Nat) (ht : t < 3) (j : Nat) (z : Int) :
    K3 B (w.setCell ⟨bf t, j, none⟩ (.int .i8 z)) kb bf m (fun k => if k = t then (f t).set j z else f k) := by
  have hk : Kept (only (bf t)) w (w.setCell ⟨bf t, j, none⟩ (.int .i8 z)) := (Kept.refl (only (bf t)) w).setCell (p := ⟨bf t, j, none⟩) (fun _ => rfl) _
  refine ⟨Nat.lt_of_lt_of_le h.lt hk.size, fun u hu => (hk.cell (p := ⟨kb, u, none⟩) h.lt (fun e => h.off t ht e.symm)).trans (h.at_ u hu), fun u hu => ?_, h.inj, h.off⟩
  by_cases e : u = t
  · subst e
    simp only [if_true]
    exact (h.row u hu).set j z
  · simp only [if_neg e]
    exact (h.row u hu).kept hk (fun x => e (h.inj u t hu ht x))

theorem K3.congr {B : Nat} {w : World} {kb : Nat} {bf : Nat → Nat} {m : Nat} {f g : Nat → List Int} (h : K3 B w kb bf m f) (e : ∀ k, k < 3 → f k = g k) : K3 B w kb bf m g :=
  ⟨h.lt, h.at_, fun t ht => by rw [← e t ht]; exact h.row t ht, h.inj, h.off⟩

theorem s8_b8 (z : Int) (h0 : -128 ≤ z) (h1 : z ≤ 127) : s8 (b8 z) = z := by
  unfold s8 b8
  rw [wrap_i8, UInt8.toNat_ofNat']
  omega
theorem map_s8_b8 (zs : List Int) (h : ∀ z ∈ zs, -128 ≤ z ∧ z ≤ 127) : (zs.map b8).map s8 = zs := by
  rw [List.map_map]
  conv => rhs; rw [← List.map_id zs]
  exact List.map_congr_left fun z hz => s8_b8 z (h z hz).1 (h z hz).2
theorem sub_head (l : List UInt8) (t : ByteArray) : sub (⟨l.toArray⟩ ++ t) 0 l.length = l := by
  unfold sub
  simp

theorem take_set_next {zs : List Int} {u : Nat} {z : Int} (hu : u < zs.length) (h : zs.take u = List.replicate u z) : (zs.set u z).take (u + 1) = List.replicate (u + 1) z := by
  rw [List.take_succ_eq_append_getElem (by rw [List.length_set]; exact hu), List.take_set_of_le (by omega), h, List.getElem_set_self, List.replicate_succ']

theorem owns_mono {w : World} {base base' : Nat} {e : TypeId} {size : Nat} {v : Value} {n : Nat} {xs : List Value} (h : w.ownsRow base e size v n xs) (hb : base' ≤ base) : w.ownsRow base' e size v n xs := by
  obtain ⟨h1, h2⟩ := h
  refine ⟨h1, ?_⟩
  rcases h2 with h2 | ⟨g, cap, cur, hv, hg, r⟩
  · exact Or.inl h2
  · exact Or.inr ⟨g, cap, cur, hv, Nat.le_trans hb hg, r⟩

/-- The three rows stand. -/
theorem K3.of {B : Nat} {w : World} {kv : Value} {bf : Nat → Nat} {m : Nat} {zs : List Int} (hown : w.ownsRow B 22 1 kv 3 ((List.range 3).map fun t => Value.slice (some ⟨bf t, 0, none⟩) m m))
    (hrw : ∀ t, t < 3 → Rw B w m (bf t) zs) (hinj : ∀ t u, t < 3 → u < 3 → bf t = bf u → t = u) (hoff : ∀ t, t < 3 → kv.ownBlock ≠ some (bf t)) :
    ∃ kb cap, kv = .slice (some ⟨kb, 0, none⟩) 3 cap ∧ B ≤ kb ∧ K3 B w kb bf m (fun _ => zs) := by
  have hown' := hown
  obtain ⟨_, ⟨_, h⟩ | ⟨kb, cap, cur, rfl, hB, _⟩⟩ := hown'
  · omega
  · refine ⟨kb, cap, rfl, hB, owns_lt hown rfl, fun t ht => ?_, hrw, hinj, fun t ht e => hoff t ht (by simp [Value.ownBlock, e])⟩
    rw [hown.cellAt t (by omega), List.getElem?_map, List.getElem?_range ht]
    rfl

theorem rng_next (j g m : Nat) (bf : Nat → Nat) : ((List.range (j + 1)).map fun t => Value.slice (some ⟨if t = j then g else bf t, 0, none⟩) m m) = ((List.range j).map fun t => Value.slice (some ⟨bf t, 0, none⟩) m m) ++ [.slice (some ⟨g, 0, none⟩) m m] := by
  rw [List.range_succ, List.map_append, List.map_cons, List.map_nil, if_pos rfl]
  congr 1
  refine List.map_congr_left fun t ht => ?_
  rw [if_neg (by have := List.mem_range.1 ht; omega)]

theorem Tryd.infoR : (Tryd.prog.info? 22).map (fun i => (i.zero, i.size, i.bytes)) = some (some (.slice none 0 0), 1, 24) := by kernel_rfl

end Go.Proofs.YtcdgphneljgooabDoor.Memo
