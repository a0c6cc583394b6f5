/-
  The words in which the calls of this seat are told: 'Kept S w w'' (w' is w but for the blocks in S and new ones), and what follows of it.
-/
import Derived.WalkKit
import Derived.WalkSpells
import Derived.WalkLawsBesides
import Derived.Deep.AppendLies
import Derived.Deep.AppendSrc
import Derived.Lib.BufferRead
import Derived.Lib.UnsafeStr
import Derived.Lib.Strings
import Derived.Laws.Bits64b
namespace Go.Proofs.Ytdponkpgokncdaa
open Go.RowKit

/-- w' is w, but for the blocks of S and for new ones. -/
structure Kept (S : Nat → Prop) (w w' : World) : Prop where
  os : w'.os = w.os
  tape : w'.tape = w.tape
  output : w'.output = w.output
  size : w.heap.size ≤ w'.heap.size
  block : ∀ k, k < w.heap.size → ¬ S k → w'.heap[k]? = w.heap[k]?

theorem Kept.refl (S : Nat → Prop) (w : World) : Kept S w w := ⟨rfl, rfl, rfl, Nat.le_refl _, fun _ _ _ => rfl⟩

theorem Kept.trans {S S' : Nat → Prop} {a b c : World} (h : Kept S a b) (k : Kept S' b c) (hs : ∀ i, i < a.heap.size → S' i → S i) : Kept S a c :=
  ⟨k.os.trans h.os, k.tape.trans h.tape, k.output.trans h.output, Nat.le_trans h.size k.size,
    fun i hi hn => (k.block i (Nat.lt_of_lt_of_le hi h.size) (fun e => hn (hs i hi e))).trans (h.block i hi hn)⟩

theorem Kept.mono {S S' : Nat → Prop} {a b : World} (h : Kept S a b) (hs : ∀ i, i < a.heap.size → S i → S' i) : Kept S' a b :=
  ⟨h.os, h.tape, h.output, h.size, fun i hi hn => h.block i hi (fun e => hn (hs i hi e))⟩

theorem Kept.alloc {S : Nat → Prop} {a w : World} (h : Kept S a w) (o : Obj) : Kept S a (w.alloc o) :=
  ⟨h.os, h.tape, h.output, Nat.le_trans h.size (by simp), fun k hk hn => (Below.heap_alloc _ _ _ (Nat.lt_of_lt_of_le hk h.size)).trans (h.block k hk hn)⟩

theorem Kept.drew {S : Nat → Prop} {a w : World} (h : Kept S a w) : Kept S a w.drew := ⟨h.os, h.tape, h.output, h.size, h.block⟩

theorem Kept.undrew {S : Nat → Prop} {a w : World} (h : Kept S a.drew w) : Kept S a w := ⟨h.os, h.tape, h.output, h.size, h.block⟩

theorem Kept.setCell {S : Nat → Prop} {a w : World} (h : Kept S a w) {p : Addr} (hp : p.block < a.heap.size → S p.block) (u : Value) : Kept S a (w.setCell p u) :=
  ⟨h.os, h.tape, h.output, by simpa [World.setCell] using h.size, fun k hk hn => (Below.heap_setCell _ _ _ _ (fun e => hn (by subst e; exact hp hk))).trans (h.block k hk hn)⟩

theorem Kept.grown {S : Nat → Prop} {a w w' : World} {row : Option Nat} (h : Kept S a w) (hg : w.grownBy w' row) (hr : ∀ k, k < a.heap.size → row = some k → S k) : Kept S a w' :=
  ⟨hg.os.trans h.os, hg.tape.trans h.tape, hg.output.trans h.output, Nat.le_trans h.size hg.size,
    fun k hk hn => (hg.block k (Nat.lt_of_lt_of_le hk h.size) (fun e => hn (hr k hk e.symm))).trans (h.block k hk hn)⟩

theorem Kept.ofBelow {S : Nat → Prop} {B : Nat} {a b : World} (h : Below B a b) (hs : ∀ i, i < a.heap.size → B ≤ i → S i) : Kept S a b :=
  ⟨h.os, h.tape, h.output, h.size, fun k hk hn => h.block k (by
    rcases Nat.lt_or_ge k B with e | e
    · exact e
    · exact absurd (hs k hk e) hn)⟩

theorem Kept.below {S : Nat → Prop} {B : Nat} {a b : World} (h : Kept S a b) (hB : B ≤ a.heap.size) (hs : ∀ i, i < B → ¬ S i) : Below B a b :=
  ⟨h.os, h.tape, h.output, h.size, fun k hk => h.block k (by omega) (hs k hk)⟩

theorem Kept.cell {S : Nat → Prop} {w w' : World} (h : Kept S w w') {p : Addr} (hp : p.block < w.heap.size) (hn : ¬ S p.block) : w'.cell? p = w.cell? p := World.cell?_of_block (w := w) (h.block p.block hp hn)
theorem Kept.frozen {S : Nat → Prop} {w w' : World} (h : Kept S w w') {p : Addr} (hp : p.block < w.heap.size) (hn : ¬ S p.block) : w'.frozen? p = w.frozen? p := World.frozen?_of_block (w := w) (h.block p.block hp hn)

theorem lt_of_heap {w : World} {k : Nat} {o : Obj} (h : w.heap[k]? = some o) : k < w.heap.size := (Array.getElem?_eq_some_iff.1 h).1

/-- A known block stays known. -/
theorem Kept.at {S : Nat → Prop} {w w' : World} (h : Kept S w w') {k : Nat} {o : Obj} (hk : w.heap[k]? = some o) (hn : ¬ S k) : w'.heap[k]? = some o :=
  (h.block k (lt_of_heap hk) hn).trans hk

/-- Nothing but new blocks. -/
abbrev Fresh (w w' : World) : Prop := Kept (fun _ => False) w w'

/-- What a value owns stays owned where its block stays. -/
theorem owns_kept {S : Nat → Prop} {w w' : World} {base : Nat} {e : TypeId} {size : Nat} {v : Value} {n : Nat} {xs : List Value} (h : w.ownsRow base e size v n xs) (hk : Kept S w w') (hn : ∀ g, v.ownBlock = some g → ¬ S g) : w'.ownsRow base e size v n xs := by
  obtain ⟨h1, h2⟩ := h
  refine ⟨h1, ?_⟩
  rcases h2 with h2 | ⟨g, cap, cur, hv, hg, hh, r⟩
  · exact Or.inl h2
  · exact Or.inr ⟨g, cap, cur, hv, hg, hk.at hh (hn g (by rw [hv]; rfl)), r⟩

theorem owns_base {w : World} {base : Nat} {e : TypeId} {size : Nat} {v : Value} {n : Nat} {xs : List Value} (h : w.ownsRow base e size v n xs) : w.ownsRow 0 e size v n xs := by
  obtain ⟨h1, h2⟩ := h
  refine ⟨h1, ?_⟩
  rcases h2 with h2 | ⟨g, cap, cur, hv, _, r⟩
  · exact Or.inl h2
  · exact Or.inr ⟨g, cap, cur, hv, Nat.zero_le _, r⟩

theorem owns_lt {w : World} {base : Nat} {e : TypeId} {size : Nat} {v : Value} {n : Nat} {xs : List Value} (h : w.ownsRow base e size v n xs) {g : Nat} (hg : v.ownBlock = some g) : g < w.heap.size := by
  rcases h.2 with ⟨rfl, _⟩ | ⟨g', cap, cur, hv, _, hh, _⟩
  · simp [Value.ownBlock] at hg
  · rw [hv] at hg; simp [Value.ownBlock] at hg; subst hg; exact lt_of_heap hh

/-- Behind an append whose one element was laid in a block of its own first (behind a draw too): an old block is as it was. -/
theorem grown_block {w w0 w' : World} {o : Obj} {row : Option Nat} (hg : w0.grownBy w' row) (h0 : w0.heap = (w.alloc o).heap) {b : Nat} (hb : b < w.heap.size) (hne : row ≠ some b) : w'.heap[b]? = w.heap[b]? := by
  rw [hg.block b (by rw [h0]; simp; omega) (fun e => hne e.symm), h0]
  exact Below.heap_alloc w o b hb
theorem grown_cell {w w0 w' : World} {o : Obj} {row : Option Nat} (hg : w0.grownBy w' row) (h0 : w0.heap = (w.alloc o).heap) {b i : Nat} (hb : b < w.heap.size) (hne : row ≠ some b) : w'.cell? ⟨b, i, none⟩ = w.cell? ⟨b, i, none⟩ :=
  World.cell?_of_block (w := w) (a := ⟨b, i, none⟩) (grown_block hg h0 hb hne)
theorem grown_frozen {w w0 w' : World} {o : Obj} {row : Option Nat} (hg : w0.grownBy w' row) (h0 : w0.heap = (w.alloc o).heap) {b i : Nat} (hb : b < w.heap.size) (hne : row ≠ some b) : w'.frozen? ⟨b, i, none⟩ = w.frozen? ⟨b, i, none⟩ :=
  World.frozen?_of_block (w := w) (a := ⟨b, i, none⟩) (grown_block hg h0 hb hne)

/-- Bytes as cells. -/
abbrev bytesV (l : List UInt8) : List Value := Lib.byteCells l

/-- A byte of a whole number. -/
def byteOf (n : Nat) (i : Nat) : UInt8 := UInt8.ofNat (n / 256 ^ i % 256)
theorem byteOf_toNat (n i : Nat) : (byteOf n i).toNat = n / 256 ^ i % 256 := by
  unfold byteOf
  rw [UInt8.toNat_ofNat']
  omega
/-- The lowest byte first. -/
def le (n : Nat) (k : Nat) : List UInt8 := (List.range k).map (byteOf n)
theorem le_length (n k : Nat) : (le n k).length = k := by simp [le]
theorem le_succ (n k : Nat) : le n (k + 1) = le n k ++ [byteOf n k] := by simp [le, List.range_succ]
theorem le_zero (n : Nat) : le n 0 = [] := rfl

theorem bytesV_length (l : List UInt8) : (bytesV l).length = l.length := by simp [bytesV, Lib.byteCells]
theorem bytesV_append (a b : List UInt8) : bytesV (a ++ b) = bytesV a ++ bytesV b := by simp [bytesV, Lib.byteCells]
theorem bytesV_one (b : UInt8) : bytesV [b] = [.int .u8 b.toNat] := rfl

theorem ret_int {k : IntKind} {a b : Int} (h : a = b) : Ending.returned (.int k a) = .returned (.int k b) := by rw [h]
theorem ret_string {a b : ByteArray} (h : a = b) : Ending.returned (.string a) = .returned (.string b) := by rw [h]
theorem ret_bool {a b : Bool} (h : a = b) : Ending.returned (.bool a) = .returned (.bool b) := by rw [h]

theorem take_snoc (s : ByteArray) (k : Nat) (h : k < s.size) : s.data.toList.take (k + 1) = s.data.toList.take k ++ [s[k]] := by
  rw [List.take_succ_eq_append_getElem (by simpa using h)]; rfl

/-- The number whose bytes these are, the lowest first. -/
def unle : List UInt8 → Nat
  | [] => 0
  | b :: r => b.toNat + 256 * unle r
theorem unle_snoc : ∀ (l : List UInt8) (b : UInt8), unle (l ++ [b]) = unle l + b.toNat * 256 ^ l.length
  | [], b => by simp [unle]
  | a :: l, b => by
    have h := unle_snoc l b
    simp only [List.cons_append, unle, h, List.length_cons, Nat.pow_succ]
    rw [Nat.mul_add, Nat.mul_comm (256 ^ l.length) 256, ← Nat.mul_assoc, Nat.mul_left_comm, ← Nat.mul_assoc, Nat.add_assoc]
theorem unle_lt : ∀ l : List UInt8, unle l < 256 ^ l.length
  | [] => by simp [unle]
  | a :: l => by
    have h := unle_lt l
    have ha : a.toNat < 256 := a.toNat_lt
    simp only [unle, List.length_cons, Nat.pow_succ]
    omega
/-- Laying a byte ahead of a number of so many bytes. -/
theorem or_byte (n j : Nat) (b : UInt8) (hn : n < 256 ^ j) (hj : j < 8) : bits .or .u64 (n : Int) (IntKind.u64.wrap (IntKind.u64.wrap (b.toNat : Int) * 2 ^ (8 * j))) = ((n + b.toNat * 256 ^ j : Nat) : Int) := by
  have hb : b.toNat < 256 := b.toNat_lt
  have e1 : (256 : Nat) ^ j = 2 ^ (8 * j) := by rw [Nat.pow_mul]
  have hp : 256 ^ (j + 1) ≤ 256 ^ 8 := Nat.pow_le_pow_right (by omega) (by omega)
  have hm : b.toNat * 256 ^ j + n < 256 ^ (j + 1) := by
    rw [Nat.pow_succ]
    have : b.toNat * 256 ^ j ≤ 255 * 256 ^ j := Nat.mul_le_mul_right _ (by omega)
    omega
  have e2 : IntKind.u64.wrap (IntKind.u64.wrap (b.toNat : Int) * 2 ^ (8 * j)) = ((b.toNat * 256 ^ j : Nat) : Int) := by
    rw [IntKind.wrap_u64, IntKind.wrap_u64, Int.emod_eq_of_lt (a := (b.toNat : Int)) (by omega) (by omega), e1]
    have e3 : (b.toNat : Int) * 2 ^ (8 * j) = ((b.toNat * 2 ^ (8 * j) : Nat) : Int) := by simp
    rw [e3, ← e1]
    omega
  rw [e2, bits_or_u64_nat _ _ (by omega) (by omega)]
  have h := Nat.shiftLeft_add_eq_or_of_lt (i := 8 * j) (b := n) (by rw [← e1]; exact hn) b.toNat
  rw [Nat.shiftLeft_eq, ← e1] at h
  rw [Nat.or_comm, ← h, Nat.add_comm]

/-- One step of the digest, in the walk's own words. -/
def fnvStep (x : Int) (b : UInt8) : Int := IntKind.u64.wrap (bits .xor .u64 x (IntKind.u64.wrap (b.toNat : Int)) * 1099511628211)
/-- The digest. -/
def fnvOf (l : List UInt8) : Int := l.foldl fnvStep 14695981039346656037
theorem fnvOf_snoc (l : List UInt8) (b : UInt8) : fnvOf (l ++ [b]) = fnvStep (fnvOf l) b := by simp [fnvOf]
end Go.Proofs.Ytdponkpgokncdaa
