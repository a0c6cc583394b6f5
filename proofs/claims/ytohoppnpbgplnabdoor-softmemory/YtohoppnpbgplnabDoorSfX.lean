/-
  What the statement on memory wants besides: a list filled up with ones and cut; marks in rows.
-/
import Derived.Test.YtohoppnpbgplnabDoorMk2
import Derived.Test.YtohoppnpbgplnabDoorSfh
import Derived.Test.YtohoppnpbgplnabDoorSfo
namespace Go.Proofs.YtohoppnpbgplnabDoor
open Go.RowKit Go.Lib Go.Maps

/-- A list filled up with ones to n, and cut there. -/
def wwL (A : List Int) (n : Nat) : List Int := (A ++ List.replicate (n - A.length) 1).take n
theorem ww_eq {A : List Int} {m n : Nat} (_h1 : A.length ≤ m) (h2 : n ≤ m) (h3 : m ≤ n ∨ m = A.length) : (A ++ List.replicate (m - A.length) 1).take n = wwL A n := by
  unfold wwL
  rcases h3 with h | h
  · obtain rfl : m = n := by omega
    rfl
  · rw [h, Nat.sub_self, List.replicate_zero, show n - A.length = 0 by omega, List.replicate_zero]
theorem ww_mem {A : List Int} {n : Nat} {z : Int} (h : z ∈ wwL A n) : z ∈ A ∨ z = 1 := by
  have := List.mem_of_mem_take h
  rcases List.mem_append.1 this with e | e
  · exact .inl e
  · exact .inr (List.eq_of_mem_replicate e)
theorem ww_snoc {A : List Int} {m : Nat} (h : A.length ≤ m) : (A ++ List.replicate (m - A.length) 1) ++ [1] = A ++ List.replicate (m + 1 - A.length) 1 := by
  rw [List.append_assoc, show m + 1 - A.length = (m - A.length) + 1 by omega, List.replicate_succ']
theorem rk_take {k : IntKind} {p : Nat → Prop} {w : World} {ao : Option Addr} {m cp n : Nat} {zs : List Int} (h : Rk k p w (.slice ao m cp) zs) (hn : n ≤ m) : Rk k p w (.slice ao n cp) (zs.take n) := by
  obtain ⟨hl, hcap, hno, hc⟩ := h.cells
  have e : (zs.take n).length = n := by rw [List.length_take]; omega
  refine ⟨ao, cp, by rw [e], ?_, fun h0 => ?_, fun z hz => h.all z (List.mem_of_mem_take hz), hno, by rw [e]; omega⟩
  · have := h.len
    have := Nat.mul_le_mul_right (kb k) (show (zs.take n).length ≤ zs.length by rw [e]; omega)
    omega
  · have hp : 0 < n := by rw [← e]; exact List.length_pos_iff.2 h0
    obtain ⟨b, off, ha, hpb, hb, hcell⟩ := hc (by omega)
    refine ⟨b, off, ha, hpb, hb, fun i hi => ?_⟩
    rw [e] at hi
    rw [hcell i (by omega), List.getD_eq_getElem?_getD, List.getD_eq_getElem?_getD, List.getElem?_take_of_lt hi]
theorem run_upO (b : Option Nat) (n cap h : Nat) (hc : h ≤ cap) (W : World) : (Instr.slice 22 (.slice (b.map fun g => ⟨g, 0, none⟩) n cap) none (some (.int .i64 (h : Int))) none).run Tryd.prog W = .ok (.slice (b.map fun g => ⟨g, 0, none⟩) h cap) W := by
  have hu : Tryd.prog.underlying 22 = some (.slice (Tryd.prog.elem 22)) := by simp [Program.elem, Tryd.underlying22]
  have he : Tryd.prog.elem 22 = 2 := by simp [Program.elem, Tryd.underlying22]
  have hz : (sizeOf 2).run Tryd.prog W = .ok 1 W := by kernel_rfl
  rw [run_slice_h (P := Tryd.prog) W 22 _ n cap hu .i64 (h : Int) (by omega) (by omega), he, hz]
  cases b with
  | none => simp [sliced, Result.andThen]
  | some g => simp [sliced, Result.andThen, Addr.add_lit]
theorem own_opt {w : World} {B : Nat} {e : TypeId} {ao : Option Addr} {n cp : Nat} {xs : List Value} (h : w.ownsRow B e 1 (.slice ao n cp) n xs) : (∃ b : Option Nat, ao = b.map fun g => ⟨g, 0, none⟩) ∧ n ≤ cp := by
  rcases h.2 with ⟨e0, h0⟩ | ⟨g, cap, cur, hv, _, _, hc, _⟩
  · injection e0 with e1 _ e3
    exact ⟨⟨none, by rw [e1]; rfl⟩, by omega⟩
  · injection hv with e1 _ e3
    exact ⟨⟨some g, by rw [e1]; rfl⟩, by omega⟩
theorem wwL_len (A : List Int) (n : Nat) : (wwL A n).length = n := by
  unfold wwL
  rw [List.length_take, List.length_append, List.length_replicate]
  omega
/-- Rows of which the first i are marked, and of the next one the first j numbers. -/
def Mar (c : Nat → Int) (n i j : Nat) (F : Nat → List Int) : Prop :=
  (∀ p, p < 3 → (F p).length = n) ∧ (∀ p, p < i → ∀ t, t < n → (F p).getD t 0 = c p) ∧ ∀ t, t < j → (F i).getD t 0 = c i
theorem Mar.start {c : Nat → Int} {n : Nat} {F : Nat → List Int} (h : ∀ p, p < 3 → (F p).length = n) : Mar c n 0 0 F := ⟨h, fun p hp => by omega, fun t ht => by omega⟩
theorem getD_setM {l : List Int} {i : Nat} (h : i < l.length) (v : Int) (q : Nat) : (l.set i v).getD q 0 = if q = i then v else l.getD q 0 := by
  simp only [List.getD_eq_getElem?_getD, List.getElem?_set]
  split
  · rename_i e; subst e; simp
  · rename_i e; rw [if_neg (fun e' => e e'.symm)]
theorem Mar.set {c : Nat → Int} {n i j : Nat} {F : Nat → List Int} (h : Mar c n i j F) (hi : i < 3) (hj : j < n) : Mar c n i (j + 1) (fun q => if q = i then (F i).set j (c i) else F q) := by
  refine ⟨fun p hp => ?_, fun p hp t ht => ?_, fun t ht => ?_⟩
  · show (if p = i then (F i).set j (c i) else F p).length = n
    split
    · rw [List.length_set]; exact h.1 i hi
    · exact h.1 p hp
  · show (if p = i then (F i).set j (c i) else F p).getD t 0 = c p
    rw [if_neg (by omega)]
    exact h.2.1 p hp t ht
  · show (if i = i then (F i).set j (c i) else F i).getD t 0 = c i
    rw [if_pos rfl, getD_setM (by rw [h.1 i hi]; exact hj)]
    split
    · rfl
    · exact h.2.2 t (by omega)
theorem Mar.next {c : Nat → Int} {n i : Nat} {F : Nat → List Int} (h : Mar c n i n F) : Mar c n (i + 1) 0 F := by
  refine ⟨h.1, fun p hp t ht => ?_, fun t ht => by omega⟩
  by_cases e : p = i
  · subst e; exact h.2.2 t ht
  · exact h.2.1 p (by omega) t ht
end Go.Proofs.YtohoppnpbgplnabDoor
