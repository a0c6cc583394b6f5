/-
  Numbers of layer 8: products of rows, the rows of a matrix, their sizes.
-/
import Derived.WalkKit
import Derived.WalkSpells
import Derived.WalkLawsBesides
import Derived.Deep.AppendLies
import Derived.Deep.AppendSrc
import Derived.Lib.BufferRead
import Derived.Lib.UnsafeStr
import Derived.Lib.Strings
import Derived.Laws.Bits64b
import Derived.Test.YtakiimjldccgcabDoorRows
import Derived.ProofKit
import Derived.OpenShut
import Derived.Deep.DeepHandedRow
import Derived.Lib.LaidTab
namespace Go.Proofs.YtakiimjldccgcabDoor

/-- A number of 8 bits. -/
def C8 (z : Int) : Prop := -128 ≤ z ∧ z ≤ 127
/-- The sum of the products. -/
def dotN : List Int → List Int → Int
  | a :: r, b :: s => a * b + dotN r s
  | _, _ => 0
theorem dotN_append : ∀ (a b c d : List Int), a.length = b.length → dotN (a ++ c) (b ++ d) = dotN a b + dotN c d
  | [], [], c, d, _ => by simp [dotN]
  | x :: r, y :: s, c, d, h => by
    have := dotN_append r s c d (by simpa using h)
    simp only [List.cons_append, dotN, this]
    omega
theorem dotN_comm : ∀ (a b : List Int), dotN a b = dotN b a
  | [], [] => rfl
  | [], _ :: _ => rfl
  | _ :: _, [] => rfl
  | x :: r, y :: s => by simp only [dotN, dotN_comm r s, Int.mul_comm x y]
theorem getD_getElem {a : List Int} {j : Nat} (h : j < a.length) : a.getD j 0 = a[j] := by rw [List.getD_eq_getElem?_getD, List.getElem?_eq_getElem h]; rfl
theorem take_snocD {a : List Int} {j : Nat} (h : j < a.length) : a.take (j + 1) = a.take j ++ [a.getD j 0] := by rw [List.take_succ_eq_append_getElem h, getD_getElem h]
theorem dotN_take {a b : List Int} {j : Nat} (ha : j < a.length) (hb : j < b.length) : dotN (a.take (j + 1)) (b.take (j + 1)) = dotN (a.take j) (b.take j) + a.getD j 0 * b.getD j 0 := by
  rw [take_snocD ha, take_snocD hb, dotN_append _ _ _ _ (by simp; omega)]
  simp [dotN]
theorem mul8 {x y : Int} (hx : C8 x) (hy : C8 y) : -16384 ≤ x * y ∧ x * y ≤ 16384 := by
  obtain ⟨a, b⟩ := hx
  obtain ⟨c, d⟩ := hy
  rcases Int.le_total 0 y with h | h
  · have h1 := Int.mul_le_mul_of_nonneg_right b h
    have h2 := Int.mul_le_mul_of_nonneg_right a h
    omega
  · have h1 := Int.mul_le_mul_of_nonpos_right b h
    have h2 := Int.mul_le_mul_of_nonpos_right a h
    omega
theorem dotN_bound : ∀ (a b : List Int), (∀ z ∈ a, C8 z) → (∀ z ∈ b, C8 z) → -16384 * (a.length : Int) ≤ dotN a b ∧ dotN a b ≤ 16384 * (a.length : Int)
  | [], b, _, _ => by cases b <;> simp [dotN]
  | x :: r, [], _, _ => by simp only [dotN, List.length_cons]; omega
  | x :: r, y :: s, ha, hb => by
    have h := dotN_bound r s (fun z hz => ha z (List.mem_cons_of_mem _ hz)) (fun z hz => hb z (List.mem_cons_of_mem _ hz))
    have hm := mul8 (ha x List.mem_cons_self) (hb y List.mem_cons_self)
    simp only [dotN, List.length_cons]
    omega
/-- The sum of the sizes. -/
def sizeN : List Int → Int
  | [] => 0
  | z :: r => (z.natAbs : Int) + sizeN r
theorem sizeN_append : ∀ (a b : List Int), sizeN (a ++ b) = sizeN a + sizeN b
  | [], b => by simp [sizeN]
  | x :: r, b => by
    have := sizeN_append r b
    simp only [List.cons_append, sizeN, this]
    omega
theorem sizeN_bound : ∀ (a : List Int), (∀ z ∈ a, C8 z) → 0 ≤ sizeN a ∧ sizeN a ≤ 128 * (a.length : Int)
  | [], _ => by simp [sizeN]
  | x :: r, ha => by
    have h := sizeN_bound r (fun z hz => ha z (List.mem_cons_of_mem _ hz))
    have hm := ha x List.mem_cons_self
    unfold C8 at hm
    simp only [sizeN, List.length_cons]
    omega
theorem dotN_size : ∀ (a b : List Int), (∀ z ∈ b, C8 z) → -(128 * sizeN a) ≤ dotN a b ∧ dotN a b ≤ 128 * sizeN a
  | [], b, _ => by cases b <;> simp [dotN, sizeN]
  | x :: r, [], _ => by
    have : 0 ≤ sizeN r := by
      clear x
      induction r with
      | nil => simp [sizeN]
      | cons y s ih => simp only [sizeN]; omega
    simp only [dotN, sizeN]; omega
  | x :: r, y :: s, hb => by
    have h := dotN_size r s (fun z hz => hb z (List.mem_cons_of_mem _ hz))
    obtain ⟨h1, h2⟩ := hb y List.mem_cons_self
    have hm : -(128 * (x.natAbs : Int)) ≤ x * y ∧ x * y ≤ 128 * (x.natAbs : Int) := by
      rcases Int.le_total 0 x with e | e
      · have e' : (x.natAbs : Int) = x := by omega
        have q1 := Int.mul_le_mul_of_nonneg_left h1 e
        have q2 := Int.mul_le_mul_of_nonneg_left h2 e
        omega
      · have e' : (x.natAbs : Int) = -x := by omega
        have q1 := Int.mul_le_mul_of_nonpos_left e h1
        have q2 := Int.mul_le_mul_of_nonpos_left e h2
        omega
    simp only [dotN, sizeN]
    omega

/-- A row of a matrix. -/
def part (w : List Int) (c r : Nat) : List Int := (w.drop (r * c)).take c
theorem part_length {w : List Int} {c r R : Nat} (h : w.length = R * c) (hr : r < R) : (part w c r).length = c := by
  have : (r + 1) * c ≤ R * c := Nat.mul_le_mul_right c hr
  rw [Nat.add_mul, Nat.one_mul] at this
  simp [part]
  omega
theorem part_mem {w : List Int} {c r : Nat} {z : Int} (h : z ∈ part w c r) : z ∈ w := List.mem_of_mem_drop (List.mem_of_mem_take h)
theorem part_get {w : List Int} {c r i : Nat} (h : i < c) : (part w c r).getD i 0 = w.getD (r * c + i) 0 := by
  simp only [part, List.getD_eq_getElem?_getD]
  rw [List.getElem?_take_of_lt h, List.getElem?_drop]
/-- Each row times a row. -/
def timesN (w : List Int) (c : Nat) (x : List Int) : List Int := (List.range (w.length / c)).map (fun r => dotN (part w c r) x)
/-- The size of each row. -/
def sizesN (w : List Int) (c : Nat) : List Int := (List.range (w.length / c)).map (fun r => sizeN (part w c r))
theorem timesN_length (w : List Int) (c : Nat) (x : List Int) : (timesN w c x).length = w.length / c := by simp [timesN]
theorem sizesN_length (w : List Int) (c : Nat) : (sizesN w c).length = w.length / c := by simp [sizesN]
theorem rows_of {w : List Int} {c R : Nat} (h : w.length = R * c) (hc : 1 ≤ c) : w.length / c = R := by rw [h]; exact Nat.mul_div_cancel _ (by omega)
theorem timesN_rows {w : List Int} {c R : Nat} (h : w.length = R * c) (hc : 1 ≤ c) (x : List Int) : timesN w c x = (List.range R).map (fun r => dotN (part w c r) x) := by unfold timesN; rw [rows_of h hc]
theorem sizesN_rows {w : List Int} {c R : Nat} (h : w.length = R * c) (hc : 1 ≤ c) : sizesN w c = (List.range R).map (fun r => sizeN (part w c r)) := by unfold sizesN; rw [rows_of h hc]
/-- What is wrong with a matrix. -/
def mE (w : List Int) (c : Int) : Int := if 1048576 < w.length then 81 else if c < 1 ∨ (w.length : Int) % c ≠ 0 then 80 else 0
/-- How many rows a matrix has; 0, if it is none. -/
def mR (w : List Int) (c : Int) : Nat := if mE w c = 0 then w.length / c.toNat else 0
theorem mE_many {w : List Int} (c : Int) (h : 1048576 < w.length) : mE w c = 81 := by unfold mE; rw [if_pos h]
theorem mE_low {w : List Int} {c : Int} (h : w.length ≤ 1048576) (hc : c < 1) : mE w c = 80 := by unfold mE; rw [if_neg (by omega), if_pos (.inl hc)]
theorem mE_rest {w : List Int} {c : Int} (h : w.length ≤ 1048576) (hc : (w.length : Int) % c ≠ 0) : mE w c = 80 := by unfold mE; rw [if_neg (by omega), if_pos (.inr hc)]
theorem mE_ok {w : List Int} {c R : Nat} (h : w.length ≤ 1048576) (hc : 1 ≤ c) (hr : w.length = R * c) : mE w c = 0 ∧ mR w c = R := by
  have h0 : mE w c = 0 := by
    unfold mE
    rw [if_neg (by omega), if_neg]
    rintro (e | e)
    · omega
    · apply e
      rw [hr, Int.natCast_mul]
      exact Int.mul_emod_left _ _
  refine ⟨h0, ?_⟩
  unfold mR
  rw [if_pos h0, Int.toNat_natCast]
  exact rows_of hr hc
theorem mR_bad {w : List Int} {c : Int} (h : mE w c ≠ 0) : mR w c = 0 := by unfold mR; rw [if_neg h]
/-- A matrix is one, or there is something wrong: told by cases. -/
theorem m_cases (w : List Int) (c : Int) : (1048576 < w.length) ∨ (w.length ≤ 1048576 ∧ c < 1) ∨ (w.length ≤ 1048576 ∧ ∃ k : Nat, c = k ∧ 1 ≤ k ∧ (w.length : Int) % c ≠ 0 ∧ (w.length : Int).tmod c ≠ 0) ∨ (w.length ≤ 1048576 ∧ ∃ k R : Nat, c = k ∧ 1 ≤ k ∧ w.length = R * k) := by
  rcases Nat.lt_or_ge 1048576 w.length with h | h
  · exact .inl h
  · rcases Int.lt_or_le c 1 with h1 | h1
    · exact .inr (.inl ⟨h, h1⟩)
    · obtain ⟨k, rfl⟩ := Int.eq_ofNat_of_zero_le (show 0 ≤ c by omega)
      by_cases h2 : (w.length : Int) % (k : Int) = 0
      · refine .inr (.inr (.inr ⟨h, k, w.length / k, rfl, by omega, ?_⟩))
        have : w.length % k = 0 := by omega
        have := Nat.div_add_mod w.length k
        rw [Nat.mul_comm]
        omega
      · exact .inr (.inr (.inl ⟨h, k, rfl, by omega, h2, by rw [Int.tmod_eq_emod_of_nonneg (by omega)]; exact h2⟩))
/-- What is wrong with two rows. -/
def dE (a b : List Int) : Int := if 1048576 < a.length ∨ 1048576 < b.length then 81 else if a.length ≠ b.length then 80 else 0
def dV (a b : List Int) : Int := if dE a b = 0 then dotN a b else 0
theorem dE_many {a b : List Int} (h : 1048576 < a.length ∨ 1048576 < b.length) : dE a b = 81 := by unfold dE; rw [if_pos h]
theorem dE_else {a b : List Int} (h : a.length ≤ 1048576) (h' : b.length ≤ 1048576) (hn : a.length ≠ b.length) : dE a b = 80 := by unfold dE; rw [if_neg (by omega), if_pos hn]
theorem dE_ok {a b : List Int} (h : a.length ≤ 1048576) (hn : a.length = b.length) : dE a b = 0 := by unfold dE; rw [if_neg (by omega), if_neg (by omega)]
theorem dV_bad {a b : List Int} (h : dE a b ≠ 0) : dV a b = 0 := by unfold dV; rw [if_neg h]
theorem dV_ok {a b : List Int} (h : dE a b = 0) : dV a b = dotN a b := by unfold dV; rw [if_pos h]
theorem dE_comm (a b : List Int) : dE b a = dE a b := by unfold dE; simp only [Or.comm (a := 1048576 < b.length), ne_comm (a := b.length)]
theorem dV_comm (a b : List Int) : dV b a = dV a b := by unfold dV; rw [dE_comm, dotN_comm]
theorem dE_zero {a b : List Int} (h : dE a b = 0) : a.length ≤ 1048576 ∧ a.length = b.length := by
  unfold dE at h
  split at h
  · cases h
  · split at h
    · cases h
    · omega
end Go.Proofs.YtakiimjldccgcabDoor

/-
  The words in which the calls of this seat are told: 'Kept S w w'' (w' is w but for the blocks in S and new ones), and what follows of it.
-/
namespace Go.Proofs.YtakiimjldccgcabDoor
open Go.RowKit

/-- w' is w, but for the blocks of S and for new ones. -/
structure Kept (S : Nat → Prop) (w w' : World) : Prop where
  os : w'.os = w.os
  tape : w'.tape = w.tape
  output : w'.output = w.output
  size : w.heap.size ≤ w'.heap.size
  block : ∀ k, k < w.heap.size → ¬ S k → w'.heap[k]? = w.heap[k]?

theorem Kept.refl (S : Nat → Prop) (w : World) : Kept S w w := ⟨rfl, rfl, rfl, Nat.le_refl _, fun _ _ _ => rfl⟩

theorem Kept.trans {S S' : Nat → Prop} {a b c : World} (h : Kept S a b) (k : Kept S' b c) (hs : ∀ i, i < a.heap.size → S' i → S i) : Kept S a c :=
  ⟨k.os.trans h.os, k.tape.trans h.tape, k.output.trans h.output, Nat.le_trans h.size k.size,
    fun i hi hn => (k.block i (Nat.lt_of_lt_of_le hi h.size) (fun e => hn (hs i hi e))).trans (h.block i hi hn)⟩

theorem Kept.mono {S S' : Nat → Prop} {a b : World} (h : Kept S a b) (hs : ∀ i, i < a.heap.size → S i → S' i) : Kept S' a b :=
  ⟨h.os, h.tape, h.output, h.size, fun i hi hn => h.block i hi (fun e => hn (hs i hi e))⟩

theorem Kept.alloc {S : Nat → Prop} {a w : World} (h : Kept S a w) (o : Obj) : Kept S a (w.alloc o) :=
  ⟨h.os, h.tape, h.output, Nat.le_trans h.size (by simp), fun k hk hn => (Below.heap_alloc _ _ _ (Nat.lt_of_lt_of_le hk h.size)).trans (h.block k hk hn)⟩

theorem Kept.drew {S : Nat → Prop} {a w : World} (h : Kept S a w) : Kept S a w.drew := ⟨h.os, h.tape, h.output, h.size, h.block⟩

theorem Kept.undrew {S : Nat → Prop} {a w : World} (h : Kept S a.drew w) : Kept S a w := ⟨h.os, h.tape, h.output, h.size, h.block⟩

theorem Kept.setCell {S : Nat → Prop} {a w : World} (h : Kept S a w) {p : Addr} (hp : p.block < a.heap.size → S p.block) (u : Value) : Kept S a (w.setCell p u) :=
  ⟨h.os, h.tape, h.output, by simpa [World.setCell] using h.size, fun k hk hn => (Below.heap_setCell _ _ _ _ (fun e => hn (by subst e; exact hp hk))).trans (h.block k hk hn)⟩

theorem Kept.grown {S : Nat → Prop} {a w w' : World} {row : Option Nat} (h : Kept S a w) (hg : w.grownBy w' row) (hr : ∀ k, k < a.heap.size → row = some k → S k) : Kept S a w' :=
  ⟨hg.os.trans h.os, hg.tape.trans h.tape, hg.output.trans h.output, Nat.le_trans h.size hg.size,
    fun k hk hn => (hg.block k (Nat.lt_of_lt_of_le hk h.size) (fun e => hn (hr k hk e.symm))).trans (h.block k hk hn)⟩

theorem Kept.ofBelow {S : Nat → Prop} {B : Nat} {a b : World} (h : Below B a b) (hs : ∀ i, i < a.heap.size → B ≤ i → S i) : Kept S a b :=
  ⟨h.os, h.tape, h.output, h.size, fun k hk hn => h.block k (by
    rcases Nat.lt_or_ge k B with e | e
    · exact e
    · exact absurd (hs k hk e) hn)⟩

theorem Kept.below {S : Nat → Prop} {B : Nat} {a b : World} (h : Kept S a b) (hB : B ≤ a.heap.size) (hs : ∀ i, i < B → ¬ S i) : Below B a b :=
  ⟨h.os, h.tape, h.output, h.size, fun k hk => h.block k (by omega) (hs k hk)⟩

theorem Kept.cell {S : Nat → Prop} {w w' : World} (h : Kept S w w') {p : Addr} (hp : p.block < w.heap.size) (hn : ¬ S p.block) : w'.cell? p = w.cell? p := World.cell?_of_block (w := w) (h.block p.block hp hn)
theorem Kept.frozen {S : Nat → Prop} {w w' : World} (h : Kept S w w') {p : Addr} (hp : p.block < w.heap.size) (hn : ¬ S p.block) : w'.frozen? p = w.frozen? p := World.frozen?_of_block (w := w) (h.block p.block hp hn)

theorem lt_of_heap {w : World} {k : Nat} {o : Obj} (h : w.heap[k]? = some o) : k < w.heap.size := (Array.getElem?_eq_some_iff.1 h).1

/-- A known block stays known. -/
theorem Kept.at {S : Nat → Prop} {w w' : World} (h : Kept S w w') {k : Nat} {o : Obj} (hk : w.heap[k]? = some o) (hn : ¬ S k) : w'.heap[k]? = some o :=
  (h.block k (lt_of_heap hk) hn).trans hk

/-- Nothing but new blocks. -/
abbrev Fresh (w w' : World) : Prop := Kept (fun _ => False) w w'

/-- What a value owns stays owned where its block stays. -/
theorem owns_kept {S : Nat → Prop} {w w' : World} {base : Nat} {e : TypeId} {size : Nat} {v : Value} {n : Nat} {xs : List Value} (h : w.ownsRow base e size v n xs) (hk : Kept S w w') (hn : ∀ g, v.ownBlock = some g → ¬ S g) : w'.ownsRow base e size v n xs := by
  obtain ⟨h1, h2⟩ := h
  refine ⟨h1, ?_⟩
  rcases h2 with h2 | ⟨g, cap, cur, hv, hg, hh, r⟩
  · exact Or.inl h2
  · exact Or.inr ⟨g, cap, cur, hv, hg, hk.at hh (hn g (by rw [hv]; rfl)), r⟩

theorem owns_base {w : World} {base : Nat} {e : TypeId} {size : Nat} {v : Value} {n : Nat} {xs : List Value} (h : w.ownsRow base e size v n xs) : w.ownsRow 0 e size v n xs := by
  obtain ⟨h1, h2⟩ := h
  refine ⟨h1, ?_⟩
  rcases h2 with h2 | ⟨g, cap, cur, hv, _, r⟩
  · exact Or.inl h2
  · exact Or.inr ⟨g, cap, cur, hv, Nat.zero_le _, r⟩

theorem owns_lt {w : World} {base : Nat} {e : TypeId} {size : Nat} {v : Value} {n : Nat} {xs : List Value} (h : w.ownsRow base e size v n xs) {g : Nat} (hg : v.ownBlock = some g) : g < w.heap.size := by
  rcases h.2 with ⟨rfl, _⟩ | ⟨g', cap, cur, hv, _, hh, _⟩
  · simp [Value.ownBlock] at hg
  · rw [hv] at hg; simp [Value.ownBlock] at hg; subst hg; exact lt_of_heap hh

/-- Behind an append whose one element was laid in a block of its own first (behind a draw too): an old block is as it was. -/
theorem grown_block {w w0 w' : World} {o : Obj} {row : Option Nat} (hg : w0.grownBy w' row) (h0 : w0.heap = (w.alloc o).heap) {b : Nat} (hb : b < w.heap.size) (hne : row ≠ some b) : w'.heap[b]? = w.heap[b]? := by
  rw [hg.block b (by rw [h0]; simp; omega) (fun e => hne e.symm), h0]
  exact Below.heap_alloc w o b hb
theorem grown_cell {w w0 w' : World} {o : Obj} {row : Option Nat} (hg : w0.grownBy w' row) (h0 : w0.heap = (w.alloc o).heap) {b i : Nat} (hb : b < w.heap.size) (hne : row ≠ some b) : w'.cell? ⟨b, i, none⟩ = w.cell? ⟨b, i, none⟩ :=
  World.cell?_of_block (w := w) (a := ⟨b, i, none⟩) (grown_block hg h0 hb hne)
theorem grown_frozen {w w0 w' : World} {o : Obj} {row : Option Nat} (hg : w0.grownBy w' row) (h0 : w0.heap = (w.alloc o).heap) {b i : Nat} (hb : b < w.heap.size) (hne : row ≠ some b) : w'.frozen? ⟨b, i, none⟩ = w.frozen? ⟨b, i, none⟩ :=
  World.frozen?_of_block (w := w) (a := ⟨b, i, none⟩) (grown_block hg h0 hb hne)

/-- Bytes as cells. -/
abbrev bytesV (l : List UInt8) : List Value := Lib.byteCells l

/-- A byte of a whole number. -/
def byteOf (n : Nat) (i : Nat) : UInt8 := UInt8.ofNat (n / 256 ^ i % 256)
theorem byteOf_toNat (n i : Nat) : (byteOf n i).toNat = n / 256 ^ i % 256 := by
  unfold byteOf
  rw [UInt8.toNat_ofNat']
  omega
/-- The lowest byte first. -/
def le (n : Nat) (k : Nat) : List UInt8 := (List.range k).map (byteOf n)
theorem le_length (n k : Nat) : (le n k).length = k := by simp [le]
theorem le_succ (n k : Nat) : le n (k + 1) = le n k ++ [byteOf n k] := by simp [le, List.range_succ]
theorem le_zero (n : Nat) : le n 0 = [] := rfl

theorem bytesV_length (l : List UInt8) : (bytesV l).length = l.length := by simp [bytesV, Lib.byteCells]
theorem bytesV_append (a b : List UInt8) : bytesV (a ++ b) = bytesV a ++ bytesV b := by simp [bytesV, Lib.byteCells]
theorem bytesV_one (b : UInt8) : bytesV [b] = [.int .u8 b.toNat] := rfl

theorem ret_int {k : IntKind} {a b : Int} (h : a = b) : Ending.returned (.int k a) = .returned (.int k b) := by rw [h]
theorem ret_string {a b : ByteArray} (h : a = b) : Ending.returned (.string a) = .returned (.string b) := by rw [h]
theorem ret_bool {a b : Bool} (h : a = b) : Ending.returned (.bool a) = .returned (.bool b) := by rw [h]

theorem take_snoc (s : ByteArray) (k : Nat) (h : k < s.size) : s.data.toList.take (k + 1) = s.data.toList.take k ++ [s[k]] := by
  rw [List.take_succ_eq_append_getElem (by simpa using h)]; rfl

/-- The number whose bytes these are, the lowest first. -/
def unle : List UInt8 → Nat
  | [] => 0
  | b :: r => b.toNat + 256 * unle r
theorem unle_snoc : ∀ (l : List UInt8) (b : UInt8), unle (l ++ [b]) = unle l + b.toNat * 256 ^ l.length
  | [], b => by simp [unle]
  | a :: l, b => by
    have h := unle_snoc l b
    simp only [List.cons_append, unle, h, List.length_cons, Nat.pow_succ]
    rw [Nat.mul_add, Nat.mul_comm (256 ^ l.length) 256, ← Nat.mul_assoc, Nat.mul_left_comm, ← Nat.mul_assoc, Nat.add_assoc]
theorem unle_lt : ∀ l : List UInt8, unle l < 256 ^ l.length
  | [] => by simp [unle]
  | a :: l => by
    have h := unle_lt l
    have ha : a.toNat < 256 := a.toNat_lt
    simp only [unle, List.length_cons, Nat.pow_succ]
    omega
/-- Laying a byte ahead of a number of so many bytes. -/
theorem or_byte (n j : Nat) (b : UInt8) (hn : n < 256 ^ j) (hj : j < 8) : bits .or .u64 (n : Int) (IntKind.u64.wrap (IntKind.u64.wrap (b.toNat : Int) * 2 ^ (8 * j))) = ((n + b.toNat * 256 ^ j : Nat) : Int) := by
  have hb : b.toNat < 256 := b.toNat_lt
  have e1 : (256 : Nat) ^ j = 2 ^ (8 * j) := by rw [Nat.pow_mul]
  have hp : 256 ^ (j + 1) ≤ 256 ^ 8 := Nat.pow_le_pow_right (by omega) (by omega)
  have hm : b.toNat * 256 ^ j + n < 256 ^ (j + 1) := by
    rw [Nat.pow_succ]
    have : b.toNat * 256 ^ j ≤ 255 * 256 ^ j := Nat.mul_le_mul_right _ (by omega)
    omega
  have e2 : IntKind.u64.wrap (IntKind.u64.wrap (b.toNat : Int) * 2 ^ (8 * j)) = ((b.toNat * 256 ^ j : Nat) : Int) := by
    rw [IntKind.wrap_u64, IntKind.wrap_u64, Int.emod_eq_of_lt (a := (b.toNat : Int)) (by omega) (by omega), e1]
    have e3 : (b.toNat : Int) * 2 ^ (8 * j) = ((b.toNat * 2 ^ (8 * j) : Nat) : Int) := by simp
    rw [e3, ← e1]
    omega
  rw [e2, bits_or_u64_nat _ _ (by omega) (by omega)]
  have h := Nat.shiftLeft_add_eq_or_of_lt (i := 8 * j) (b := n) (by rw [← e1]; exact hn) b.toNat
  rw [Nat.shiftLeft_eq, ← e1] at h
  rw [Nat.or_comm, ← h, Nat.add_comm]

/-- One step of the digest, in the walk's own words. -/
def fnvStep (x : Int) (b : UInt8) : Int := IntKind.u64.wrap (bits .xor .u64 x (IntKind.u64.wrap (b.toNat : Int)) * 1099511628211)
/-- The digest. -/
def fnvOf (l : List UInt8) : Int := l.foldl fnvStep 14695981039346656037
theorem fnvOf_snoc (l : List UInt8) (b : UInt8) : fnvOf (l ++ [b]) = fnvStep (fnvOf l) b := by simp [fnvOf]
end Go.Proofs.YtakiimjldccgcabDoor

/-
  From a call that answers true and makes nothing but new memory to the row of a law: what all laws of this seat share.
-/
namespace Go.Proofs.YtakiimjldccgcabDoor
open Go.ChangeShapes Go.WideShapes Go.ChangeAt Go.RowKit

theorem Tryd.own : ownKnob Tryd.prog.godebug = none := by kernel_rfl
theorem Tryd.laidOut : laidOutB Tryd.prog = true := by kernel_rfl

/-- All arguments read behind the call as before it, where nothing old has turned. -/
theorem trodAll_below {H : Type} {enc : TypeId × Value → H} {P : Program} (hl : laidOutB P = true) {W W' : World} (hb : Below W.heap.size W W') :
    ∀ (ts : List TypeId) (vs : List Value) (ds : List (DataW H)) (ps : List MemPlace), ts.all (fun t => P.readableRec t && decide (t < P.types.size)) = true →
      DataW.TrodAll enc P W 0 (fun _ => true) true ts vs ds ps → (∀ x ∈ ps, x.block < W.heap.size) → DataW.TrodAll enc P W' 0 (fun b => decide (b < W.heap.size)) true ts vs ds ps
  | [], [], [], _, _, h, _ => h
  | t :: ts, v :: vs, d :: ds, ps, hr, h, hlt => by
    obtain ⟨p, q, h1, h2, rfl⟩ := h
    simp only [List.all_cons, Bool.and_eq_true, decide_eq_true_eq] at hr
    exact ⟨p, q, Below.trod hl hr.1.1 hr.1.2 h1 hb (fun x hx => hlt x (List.mem_append.2 (.inl hx))),
      trodAll_below hl hb ts vs ds q hr.2 h2 (fun x hx => hlt x (List.mem_append.2 (.inr hx))), rfl⟩
  | [], _ :: _, _, _, _, h, _ => h.elim
  | [], [], _ :: _, _, _, h, _ => h.elim
  | _ :: _, [], _, _, _, h, _ => h.elim
  | _ :: _, _ :: _, [], _, _, h, _ => h.elim

/-- A law that answered true, and made nothing but new memory. -/
theorem post_law {H : Type} {enc : TypeId × Value → H} {f : Func} {s : ChangeSpec} {W W' : World} {args : Array Value} {ds gs : List (DataW H)} {before : List MemPlace}
    (hvars : s.vars = []) (hres : f.resultTypes = #[4]) (hr : f.params.toList.all (fun t => Tryd.prog.readableRec t && decide (t < Tryd.prog.types.size)) = true)
    (hW : DataW.Whole enc Tryd.prog f.params.toList s.vars false W args.toList ds gs before) (hfn : s.fn H (ds ++ gs) = { results := [.lit (.bool true)], args := ds })
    (hk : Fresh W W') : s.post enc Tryd.prog f false true false false W args (.bool true) W' := by
  have hb : Below W.heap.size W W' := hk.below (Nat.le_refl _) (fun _ _ e => e)
  have hlt : ∀ x ∈ before, x.block < W.heap.size := fun x hx => hW.lt x hx
  have hW' := hW
  obtain ⟨p, q, hA, hV, rfl, hfz, hnd⟩ := hW
  have hA' := trodAll_below (enc := enc) Tryd.laidOut hb _ _ _ _ hr hA (fun x hx => hlt x (List.mem_append.2 (.inl hx)))
  refine ⟨ds, gs, p ++ q, [], p, [], hW', ?_, ?_, ?_, hb.frame _, fun h => by cases h⟩
  · rw [hfn, hres]
    exact trodAll_mk1 (shut_bool Tryd.underlying4 _)
  · rw [hfn]; exact hA'
  · rw [hfn, hvars]; rfl

/-- A world for the witnesses. -/
def layIn (w : World) : World :=
  { w with heap := ((w.heap.modify 0 fun
      | .cells _ t frozen => .cells #[.int .i8 0, .int .i8 2, .int .i8 3, .int .i8 5, .int .i8 6, .int .i8 8, .int .i8 9, .int .i8 11, .int .i8 12, .int .i8 14, .int .i8 16, .int .i8 17, .int .i8 19, .int .i8 20, .int .i8 22, .int .i8 23, .int .i8 24, .int .i8 26, .int .i8 27, .int .i8 29, .int .i8 30, .int .i8 32, .int .i8 33, .int .i8 34, .int .i8 36, .int .i8 37, .int .i8 38, .int .i8 39, .int .i8 41, .int .i8 42, .int .i8 43, .int .i8 44, .int .i8 45, .int .i8 46, .int .i8 47, .int .i8 48, .int .i8 49, .int .i8 50, .int .i8 51, .int .i8 52, .int .i8 53, .int .i8 54, .int .i8 55, .int .i8 56, .int .i8 56, .int .i8 57, .int .i8 58, .int .i8 59, .int .i8 59, .int .i8 60, .int .i8 60, .int .i8 61, .int .i8 61, .int .i8 62, .int .i8 62, .int .i8 62, .int .i8 63, .int .i8 63, .int .i8 63, .int .i8 64, .int .i8 64, .int .i8 64, .int .i8 64, .int .i8 64, .int .i8 64] t frozen
      | o => o).modify 1 fun
      | .cells _ t frozen => .cells #[.int .i64 84941200, .int .i64 241400000, .int .i64 747400624] t frozen
      | o => o) }
theorem i64_of {x : Int} (h : (Lit.int .i64 x).wf = true) : -9223372036854775808 ≤ x ∧ x ≤ 9223372036854775807 := by
  have := bounds_i64 h
  exact ⟨by omega, by omega⟩
end Go.Proofs.YtakiimjldccgcabDoor
