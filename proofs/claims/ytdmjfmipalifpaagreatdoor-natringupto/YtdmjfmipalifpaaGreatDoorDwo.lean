/-
  Rows of digits in memory.
-/
import Derived.Test.YtdmjfmipalifpaaGreatDoorWmN
import Derived.Test.YtdmjfmipalifpaaGreatDoorBase
import Derived.Lib.Builder
import Derived.Laws.OwnMore
namespace Go.Proofs.YtdmjfmipalifpaaGreatDoor
open Go.RowKit

/-- A row of digits: of kind k, below B, in a block that p holds of. -/
def Dw (k : IntKind) (B : Nat) (p : Nat → Prop) (w : World) (v : Value) (L : List Nat) : Prop :=
  ∃ ao cap, v = .slice ao L.length cap ∧ (L.length ≤ cap ∧ L.length ≤ 35184372088832) ∧ cap ≤ 9223372036854775807 ∧
    (L ≠ [] → ∃ b off, ao = some ⟨b, off, none⟩ ∧ p b ∧ b < w.heap.size ∧ ∀ i, i < L.length → w.cell? ⟨b, off + i, none⟩ = some (.int k ((L.getD i 0 : Nat) : Int))) ∧ Dg B L ∧ (ao = none → cap = 0)
abbrev B64 : Nat := 18446744073709551616
abbrev Wd (p : Nat → Prop) (w : World) (v : Value) (L : List Nat) : Prop := Dw .u64 18446744073709551616 p w v L
abbrev Nd (p : Nat → Prop) (w : World) (v : Value) (L : List Nat) : Prop := Dw .i64 65536 p w v L

theorem Dw.kept {k : IntKind} {B : Nat} {p S : Nat → Prop} {w w' : World} {v : Value} {L : List Nat} (h : Dw k B p w v L) (hk : Kept S w w') (hn : ∀ b, p b → b < w.heap.size → ¬ S b) : Dw k B p w' v L := by
  obtain ⟨ao, cap, h1, h2, h3, h4, h5⟩ := h
  refine ⟨ao, cap, h1, h2, h3, fun h0 => ?_, h5⟩
  obtain ⟨b, off, e1, e2, e3, e4⟩ := h4 h0
  exact ⟨b, off, e1, e2, Nat.lt_of_lt_of_le e3 hk.size, fun i hi => (hk.cell (p := ⟨b, off + i, none⟩) e3 (hn b e2 e3)).trans (e4 i hi)⟩
theorem Dw.fresh {k : IntKind} {B : Nat} {p : Nat → Prop} {w w' : World} {v : Value} {L : List Nat} (h : Dw k B p w v L) (hk : Fresh w w') : Dw k B p w' v L := h.kept hk (fun _ _ _ e => e)
theorem Dw.mono {k : IntKind} {B : Nat} {p q : Nat → Prop} {w : World} {v : Value} {L : List Nat} (h : Dw k B p w v L) (hq : ∀ b, b < w.heap.size → p b → q b) : Dw k B q w v L := by
  obtain ⟨ao, cap, h1, h2, h3, h4, h5⟩ := h
  exact ⟨ao, cap, h1, h2, h3, fun h0 => let ⟨b, off, e1, e2, e3, e4⟩ := h4 h0; ⟨b, off, e1, hq b e3 e2, e3, e4⟩, h5⟩
theorem Dw.drewN {k : IntKind} {B : Nat} {p : Nat → Prop} {w : World} {v : Value} {L : List Nat} (h : Dw k B p w v L) (n : Nat) : Dw k B p (w.drewN n) v L :=
  h.fresh ⟨rfl, rfl, rfl, Nat.le_refl _, fun _ _ _ => rfl⟩
theorem Dw.dg {k : IntKind} {B : Nat} {p : Nat → Prop} {w : World} {v : Value} {L : List Nat} (h : Dw k B p w v L) : Dg B L := let ⟨_, _, _, _, _, _, h, _⟩ := h; h
theorem Dw.len {k : IntKind} {B : Nat} {p : Nat → Prop} {w : World} {v : Value} {L : List Nat} (h : Dw k B p w v L) : L.length ≤ 35184372088832 := let ⟨_, _, _, h1, _⟩ := h; h1.2
theorem Dw.nil (k : IntKind) (B : Nat) (p : Nat → Prop) (w : World) : Dw k B p w (.slice none 0 0) [] := ⟨none, 0, rfl, ⟨by simp, by simp⟩, by omega, fun h => absurd rfl h, Dg.nil B, fun _ => rfl⟩
theorem Dw.shape {k : IntKind} {B : Nat} {p : Nat → Prop} {w : World} {v : Value} {L : List Nat} (h : Dw k B p w v L) : ∃ ao cap, v = .slice ao L.length cap := let ⟨ao, cap, h, _⟩ := h; ⟨ao, cap, h⟩

/-- A block whose cells are: what is ahead, digits, what is behind. -/
def Ow (t : TypeId) (k : IntKind) (w : World) (b : Nat) (A : List Value) (L : List Nat) (S : List Value) : Prop :=
  w.heap[b]? = some (.cells (A ++ L.map (fun d : Nat => Value.int k (d : Int)) ++ S).toArray t (0, 0))
theorem Ow.lt {t : TypeId} {k : IntKind} {w : World} {b : Nat} {A S : List Value} {L : List Nat} (h : Ow t k w b A L S) : b < w.heap.size := lt_of_heap h
theorem Ow.cell {t : TypeId} {k : IntKind} {w : World} {b : Nat} {A S : List Value} {L : List Nat} (h : Ow t k w b A L S) (i : Nat) (hi : i < L.length) : w.cell? ⟨b, A.length + i, none⟩ = some (.int k ((L.getD i 0 : Nat) : Int)) := by
  rw [Lib.cell_of_heap h, List.getElem?_toArray, List.getElem?_append_left (by simp; omega), List.getElem?_append_right (by omega), Nat.add_sub_cancel_left, List.getElem?_map, List.getD_eq_getElem?_getD, List.getElem?_eq_getElem hi]
  rfl
theorem Ow.free {t : TypeId} {k : IntKind} {w : World} {b : Nat} {A S : List Value} {L : List Nat} (h : Ow t k w b A L S) (i : Nat) : w.frozen? ⟨b, i, none⟩ = false := Lib.frozen_of_heap h i
theorem Ow.set {t : TypeId} {k : IntKind} {w : World} {b : Nat} {A S : List Value} {L : List Nat} (h : Ow t k w b A L S) (i : Nat) (d : Nat) (hi : i < L.length) : Ow t k (w.setCell ⟨b, A.length + i, none⟩ (.int k (d : Int))) b A (L.set i d) S := by
  unfold Ow
  rw [heap_setCell_same w b (A.length + i) _ t _ h]
  congr 2
  rw [List.setIfInBounds_toArray, List.set_append_left _ _ (by simp; omega), List.set_append_right _ _ (by omega), Nat.add_sub_cancel_left, List.map_set]
theorem Ow.kept {t : TypeId} {k : IntKind} {Q : Nat → Prop} {w w' : World} {b : Nat} {A S : List Value} {L : List Nat} (h : Ow t k w b A L S) (hk : Kept Q w w') (hn : ¬ Q b) : Ow t k w' b A L S := hk.at h hn
theorem Ow.split {t : TypeId} {k : IntKind} {w : World} {b : Nat} {A S : List Value} {L : List Nat} (h : Ow t k w b A L S) (n m : Nat) :
    Ow t k w b (A ++ (L.take n).map (fun d : Nat => Value.int k (d : Int))) ((L.drop n).take m) ((L.drop (n + m)).map (fun d : Nat => Value.int k (d : Int)) ++ S) := by
  unfold Ow at *
  have e : L = L.take n ++ ((L.drop n).take m ++ L.drop (n + m)) := by rw [← List.drop_drop, List.take_append_drop, List.take_append_drop]
  have e2 := congrArg (List.map (fun d : Nat => Value.int k (d : Int))) e
  rw [List.map_append, List.map_append] at e2
  rw [h, e2]
  congr 2
  simp only [List.append_assoc]
theorem Ow.join {t : TypeId} {k : IntKind} {w : World} {b : Nat} {A S : List Value} {L1 L2 L3 : List Nat} (h : Ow t k w b (A ++ L1.map (fun d : Nat => Value.int k (d : Int))) L2 (L3.map (fun d : Nat => Value.int k (d : Int)) ++ S)) : Ow t k w b A (L1 ++ L2 ++ L3) S := by
  unfold Ow at *
  rw [h]
  congr 2
  simp
theorem Ow.dw {t : TypeId} {k : IntKind} {w : World} {b : Nat} {A S : List Value} {L : List Nat} (h : Ow t k w b A L S) {B cap : Nat} (hd : Dg B L) (h1 : L.length ≤ cap) (h0 : L.length ≤ 35184372088832) (h2 : cap ≤ 9223372036854775807) : Dw k B (fun x => x = b) w (.slice (some ⟨b, A.length, none⟩) L.length cap) L :=
  ⟨_, cap, rfl, ⟨h1, h0⟩, h2, fun _ => ⟨b, A.length, rfl, rfl, h.lt, fun i hi => h.cell i hi⟩, hd, fun e => by cases e⟩
abbrev only (b : Nat) : Nat → Prop := fun k => k = b
theorem kept_set (w : World) (b i : Nat) (v : Value) : Kept (only b) w (w.setCell ⟨b, i, none⟩ v) := (Kept.refl (only b) w).setCell (p := ⟨b, i, none⟩) (fun _ => rfl) _

abbrev enW (k : IntKind) (L : List Nat) : List Value := L.map (fun d : Nat => Value.int k (d : Int))
/-- A row that is the call's own, as a block. -/
theorem ow_of_own {B : Nat} {w : World} {e : TypeId} {k : IntKind} {g cap n : Nat} {L : List Nat} (h : w.ownsRow B e 1 (.slice (some ⟨g, 0, none⟩) n cap) n (enW k L)) : ∃ S, Ow e k w g [] L S ∧ B ≤ g ∧ n ≤ cap ∧ cap ≤ 9223372036854775807 ∧ L.length = n := by
  obtain ⟨h1, ⟨h2, _⟩ | ⟨g', cap', cur, h2, hb, hg, hn, hm, hs, ht⟩⟩ := h
  · cases h2
  · simp only [Value.slice.injEq, Option.some.injEq, Addr.mk.injEq, and_true, true_and] at h2
    obtain ⟨rfl, rfl⟩ := h2
    refine ⟨cur.toList.drop n, ?_, hb, hn, by unfold maxLen at hm; omega, by simpa using h1⟩
    unfold Ow
    rw [hg, List.nil_append]
    rw [Nat.mul_one] at ht
    have : cur.toList = L.map (fun d : Nat => Value.int k (d : Int)) ++ cur.toList.drop n := by
      have e := List.take_append_drop n cur.toList
      rw [ht] at e
      exact e.symm
    rw [← this]
theorem madeZeros (k : IntKind) (n : Nat) : (madeCells (#[.int k 0] : Array Value) n).toList = enW k (List.replicate n 0) := by
  rw [toList_madeCells_one]
  simp [enW, List.map_replicate]
end Go.Proofs.YtdmjfmipalifpaaGreatDoor
