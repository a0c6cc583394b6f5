/-
  What every call on package wire's Reader answers, told of cells.
-/
import Derived.Test.YtcdgphneljgooabDoorWd
import Derived.Deep.RegionHeld3
namespace Go.Proofs.YtcdgphneljgooabDoor
open Go.RowKit

/-- The text from place i on, n bytes. -/
def sub (s : ByteArray) (i n : Nat) : List UInt8 := (s.data.toList.drop i).take n
theorem sub_length (s : ByteArray) (i n : Nat) (h : i + n ≤ s.size) : (sub s i n).length = n := by
  unfold sub; rw [List.length_take, List.length_drop, ← Lib.size_eq]; omega
theorem extract_sub (s : ByteArray) (i n : Nat) : s.extract i (i + n) = ⟨(sub s i n).toArray⟩ := by
  rw [Lib.extract_eq]
  unfold sub
  rw [show i + n - i = n from by omega]

/-- A byte as a number of 8 bits. -/
def s8 (b : UInt8) : Int := IntKind.i8.wrap (b.toNat : Int)
theorem wrap_i8 (n : Int) : IntKind.i8.wrap n = (n + 128) % 256 - 128 := by simp [IntKind.wrap, IntKind.bits, IntKind.signed]; omega
theorem s8_range (b : UInt8) : -128 ≤ s8 b ∧ s8 b ≤ 127 := by
  have := b.toNat_lt
  unfold s8
  rw [wrap_i8]
  omega

/-- What Number answers: the number, the error, the place. -/
def numR (s : ByteArray) (i : Nat) (bytes : Int) : Int × Int × Nat :=
  if isSz bytes = false then (0, 1, i)
  else if ((s.size - i : Nat) : Int) < bytes then (0, 11, i)
  else if 9223372036854775807 < unle (sub s i bytes.toNat) then (0, 10, i)
  else (unle (sub s i bytes.toNat), 0, i + bytes.toNat)
/-- What Raw answers, and Row. -/
def rawR (s : ByteArray) (i : Nat) (n : Int) : List UInt8 × Int × Nat :=
  if n < 0 then ([], 1, i)
  else if ((s.size - i : Nat) : Int) < n then ([], 11, i)
  else (sub s i n.toNat, 0, i + n.toNat)
/-- What Text answers. -/
def textR (s : ByteArray) (i : Nat) (most : Int) : List UInt8 × Int × Nat :=
  if most < 0 then ([], 1, i)
  else if s.size - i < 4 then ([], 11, i)
  else if most < unle (sub s i 4) then ([], 12, i)
  else if s.size - i - 4 < unle (sub s i 4) then ([], 11, i)
  else (sub s (i + 4) (unle (sub s i 4)), 0, i + 4 + unle (sub s i 4))

abbrev only (b : Nat) : Nat → Prop := fun k => k = b

set_option maxHeartbeats 400000 in
theorem rtake_any (b : Nat) (s : ByteArray) (i hd n tl : Nat) (w : World) (h : RdAt w b s i) (hl : i + hd + n + tl ≤ s.size) :
    Calls Tryd.prog 47 #[.pointer (some ⟨b, 0, none⟩), .int .i64 hd, .int .i64 n, .int .i64 tl] w fun e w' =>
      e = .returned (.string ⟨(sub s (i + hd) n).toArray⟩) ∧ RdAt w' b s (i + hd + n + tl) ∧ Kept (only b) w w' := by
  have h0 := h.c0
  have h1 := h.c1
  have hf1 := h.f1
  have h3 := h.2.2
  have hi0 : (0 : Int) ≤ (i : Int) + (hd : Int) := by omega
  have hr := h.set (i + hd + n + tl) hl
  have hk : Kept (only b) w (w.setCell ⟨b, 1, none⟩ (.int .i64 ((i + hd + n + tl : Nat) : Int))) := (Kept.refl (only b) w).setCell (p := ⟨b, 1, none⟩) (fun _ => rfl) _
  have HE : Hid (s.extract (i + hd) (i + hd + n) = ⟨(sub s (i + hd) n).toArray⟩) := extract_sub s (i + hd) n
  go_enter Tryd.func47, Tryd.ntmps47
  go_wp2_with fail
  refine (clone_any _ _ ?_).mono ?_
  · rw [ByteArray.size_extract]; omega
  rintro e w1 ⟨rfl, hk1⟩
  go_wp2
  go_ret
  exact ⟨ret_string HE.out, hr.kept hk1 (fun e => e), hk.trans hk1 (fun _ _ e => e.elim)⟩

set_option maxHeartbeats 400000 in
theorem rraw_any (b : Nat) (s : ByteArray) (i : Nat) (n : Int) (w : World) (h : RdAt w b s i) :
    Calls Tryd.prog 12 #[.pointer (some ⟨b, 0, none⟩), .int .i64 n] w fun e w' =>
      e = .returned (.tuple #[.string ⟨(rawR s i n).1.toArray⟩, .int .i64 (rawR s i n).2.1]) ∧ RdAt w' b s (rawR s i n).2.2 ∧ Kept (only b) w w' := by
  have h2 := h.2.1
  have h3 := h.2.2
  by_cases hn : n < 0
  · rw [show rawR s i n = ([], 1, i) from by simp [rawR, hn]]
    go_enter Tryd.func12, Tryd.ntmps12
    go_wp2
    go_ret2
    exact ⟨rfl, h, Kept.refl _ _⟩
  · obtain ⟨m, rfl⟩ : ∃ m : Nat, n = m := ⟨n.toNat, by omega⟩
    by_cases hl : s.size - i < m
    · rw [show rawR s i m = ([], 11, i) from by unfold rawR; rw [if_neg (by omega), if_pos (by omega)]]
      go_enter Tryd.func12, Tryd.ntmps12
      go_wp2_with fail
      refine (rleft_any b s i _ h).mono ?_
      rintro e W ⟨rfl, n1, hW⟩
      have hk1 : Kept (only b) w W := by rw [hW]; exact (Kept.refl _ _).drewN n1
      have hr1 : RdAt W b s i := by rw [hW]; exact h.drewN n1
      clear hW
      go_wp2
      go_ret2
      exact ⟨rfl, hr1, hk1⟩
    · have e1 : rawR s i m = (sub s i m, 0, i + m) := by unfold rawR; rw [if_neg (by omega), if_neg (by omega), Int.toNat_natCast]
      rw [e1]
      clear e1
      go_enter Tryd.func12, Tryd.ntmps12
      go_wp2_with fail
      refine (rleft_any b s i _ h).mono ?_
      rintro e W ⟨rfl, n1, hW⟩
      have hk1 : Kept (only b) w W := by rw [hW]; exact (Kept.refl _ _).drewN n1
      have hr1 : RdAt W b s i := by rw [hW]; exact h.drewN n1
      clear hW
      go_wp2_with fail
      refine (rtake_any b s i 0 m 0 _ hr1 (by omega)).mono ?_
      rintro e W2 ⟨rfl, hr2, hk2⟩
      go_wp2
      go_ret2
      exact ⟨rfl, hr2, hk1.trans hk2 (fun _ _ e => e)⟩

theorem Tryd.info8' : (Tryd.prog.info? 47).map (fun i => (i.zero, i.size, i.bytes)) = some (some (.int .i8 0), 1, 1) := by kernel_rfl

/-- The cells that hold a text's bytes as numbers of 8 bits. -/
def cells8 (l : List UInt8) : List Value := l.map fun b => Value.int .i8 (s8 b)

set_option maxHeartbeats 1000000 in
set_option maxRecDepth 100000 in
theorem rrow_own (b : Nat) (s : ByteArray) (i m : Nat) (w : World) (h : RdAt w b s i) (hl : i + m ≤ s.size) (hm : m ≤ 140737488351232) :
    Calls Tryd.prog 11 #[.pointer (some ⟨b, 0, none⟩), .int .i64 m] w fun e w' =>
      ∃ g, e = .returned (.tuple #[.slice (some ⟨g, 0, none⟩) m m, .int .i64 0]) ∧ w.heap.size ≤ g ∧ w'.ownsRow w.heap.size 47 1 (.slice (some ⟨g, 0, none⟩) m m) m (((sub s i m).map s8).map (Value.int .i8)) ∧ RdAt w' b s (i + m) ∧ Kept (only b) w w' := by
  obtain ⟨i0, hi, hz0, hz1, hz2⟩ := info_parts Tryd.info8'
  have h2 := h.2.1
  have h3 := h.2.2
  have hsl := sub_length s i m (by omega)
  have hsg : ∀ j (hj : j < m), (cells8 (sub s i m))[j]? = some (.int .i8 (s8 (s[i + j]'(by omega)))) := fun j hj => by
    unfold cells8 sub
    rw [List.getElem?_map, List.getElem?_take_of_lt hj, List.getElem?_drop, List.getElem?_eq_getElem (by rw [← Lib.size_eq]; omega)]
    rfl
  have hcl : (cells8 (sub s i m)).length = m := by unfold cells8; rw [List.length_map, hsl]
  go_enter Tryd.func11, Tryd.ntmps11
  go_wp2_with fail
  refine (rleft_any b s i _ h).mono ?_
  rintro e W ⟨rfl, n1, hW⟩
  have hk1 : Kept (only b) w W := by rw [hW]; exact (Kept.refl _ _).drewN n1
  have hr1 : RdAt W b s i := by rw [hW]; exact h.drewN n1
  have hWs : w.heap.size ≤ W.heap.size := by rw [hW]; exact Nat.le_refl _
  clear hW
  have hbW := lt_of_heap hr1.1
  go_wp2_with (at_make; refine wpList_make_full _ rfl _ _ _ rfl w.heap.size 47 i0 _ 1 Tryd.underlying22 hi hz0 hz1 _ _ _ _ m rfl rfl rfl rfl (by rw [hz2]; omega) (by unfold maxLen; omega) (by omega) ?_; intro w2 hown2 hgrow2)
  have hk2 : Fresh W w2 := (Kept.refl _ W).grown hgrow2 (fun k _ e => by cases e)
  have hr2 : RdAt w2 b s i := hr1.kept hk2 (fun e => e)
  clear hgrow2
  go_loopw [21] (fun c wr => ∃ j : Nat, j ≤ m ∧ c = .int .i64 j ∧ ∃ xs, wr.ownsRow w.heap.size 47 1 (.slice (some ⟨W.heap.size, 0, none⟩) m m) m xs ∧ xs.take j = (cells8 (sub s i m)).take j ∧ RdAt wr b s i ∧ Fresh W wr) (fun c _ => m - (intOf c).toNat)
  case atStart => exact ⟨0, by omega, rfl, _, hown2, rfl, hr2, hk2⟩
  case round =>
    obtain ⟨j, hj, rfl, xs, hown, htk, hr, hk⟩ := hrel
    by_cases hlt : j < m
    · have hsj := hsg j hlt
      have q0 := hr.c0
      have q1 := hr.c1
      have hxl : xs.length = m := by have := hown.1; omega
      have hcj : wr.cell? ⟨W.heap.size, j, none⟩ = some (xs[j]'(by omega)) := by rw [hown.cellAt j (by omega), List.getElem?_eq_getElem (by omega)]
      have hfj : wr.frozen? ⟨W.heap.size, j, none⟩ = false := hown.frozenAt j
      obtain ⟨st1, st2⟩ := hown.stored j (.int .i8 (s8 (s[i + j]'(by omega))))
      have hset : (xs.set j (.int .i8 (s8 (s[i + j]'(by omega))))).take (j + 1) = (cells8 (sub s i m)).take (j + 1) := by
        rw [List.take_succ_eq_append_getElem (by rw [List.length_set]; omega), List.take_succ_eq_append_getElem (l := cells8 (sub s i m)) (by omega), List.take_set_of_le (by omega), htk, List.getElem_set_self]
        congr 2
        rw [List.getElem?_eq_getElem (by omega)] at hsj
        exact (Option.some.inj hsj).symm
      have hij : (0 : Int) ≤ (i : Int) + (j : Int) := by omega
      have hij2 : (i : Int) + (j : Int) < (s.size : Int) := by omega
      have hj0 : (0 : Int) ≤ (j : Int) := by omega
      have hj1 : (j : Int) < (m : Int) := by omega
      have hwp : IntKind.i64.wrap ((i : Int) + (j : Int)) = (i : Int) + (j : Int) := by rw [IntKind.wrap_i64]; omega
      have hgl : W.heap.size < wr.heap.size := by have := World.block_lt_of_cell? wr _ hcj; simpa using this
      have hko : ∀ v t, (wr.setCell ⟨W.heap.size, j, none⟩ v).drew.cell? ⟨b, t, none⟩ = wr.cell? ⟨b, t, none⟩ := fun v t => World.cell?_of_block (w := wr) (a := ⟨b, t, none⟩) (Below.heap_setCell wr ⟨W.heap.size, j, none⟩ v b (by show b ≠ W.heap.size; omega))
      have hto : ((i : Int) + (j : Int)).toNat = i + j := by omega
      go_wp2_with fail
      go_region_held3 (fun w' => w'.cell? ⟨b, 0, none⟩ = some (.string s) ∧ w'.cell? ⟨b, 1, none⟩ = some (.int .i64 i)) (first | go_keep | exact ⟨(hko _ 0).trans q0, (hko _ 1).trans q1⟩) (fail)
      have r1 : Fresh W (wr.setCell ⟨W.heap.size, j, none⟩ (.int .i8 (s8 (s[i + j]'(by omega))))) := hk.setCell (p := ⟨W.heap.size, j, none⟩) (fun e => by simp at e) _
      have r2 : RdAt (wr.setCell ⟨W.heap.size, j, none⟩ (.int .i8 (s8 (s[i + j]'(by omega))))) b s i := hr.kept (S := only W.heap.size) ((Kept.refl (only W.heap.size) wr).setCell (p := ⟨W.heap.size, j, none⟩) (fun _ => rfl) _) (by show ¬ b = W.heap.size; omega)
      go_wp2
      go_roundw
      case rel => exact ⟨j + 1, by omega, by go_num, _, st1, hset, r2, r1.drew⟩
      case measure => simp [intOf]; omega
    · obtain rfl : j = m := by omega
      have q1 := hr.c1
      have qf := hr.f1
      have hxe : xs = ((sub s i j).map s8).map (Value.int .i8) := by
        rw [List.take_of_length_le (by have := hown.1; omega), List.take_of_length_le (by omega)] at htk
        rw [htk, cells8, List.map_map]
        rfl
      have hr3 := hr.set (i + j) (by omega)
      have hk3 : Kept (only b) W (wr.setCell ⟨b, 1, none⟩ (.int .i64 ((i + j : Nat) : Int))) := (hk.mono (S' := only b) (fun _ _ e => e.elim)).setCell (p := ⟨b, 1, none⟩) (fun _ => rfl) _
      have ho := ownsRow_setCell_other hown (a := ⟨b, 1, none⟩) (by simp [Value.ownBlock]; omega) (.int .i64 ((i + j : Nat) : Int))
      rw [hxe] at ho
      clear hxe hown htk
      go_wp2
      go_ret2
      exact ⟨_, rfl, hWs, ho, hr3, hk1.trans hk3 (fun _ _ e => e)⟩


set_option maxHeartbeats 1000000 in
set_option maxRecDepth 100000 in
theorem rrow_any (b : Nat) (s : ByteArray) (i : Nat) (n : Int) (w : World) (h : RdAt w b s i) (hs : s.size ≤ 140737488351232) :
    Calls Tryd.prog 11 #[.pointer (some ⟨b, 0, none⟩), .int .i64 n] w fun e w' =>
      ∃ rv, e = .returned (.tuple #[rv, .int .i64 (rawR s i n).2.1]) ∧ RowIs (fun k => w.heap.size ≤ k) w' rv ((rawR s i n).1.map s8) ∧ RdAt w' b s (rawR s i n).2.2 ∧ Kept (only b) w w' := by
  have h2 := h.2.1
  have h3 := h.2.2
  have hrn : ∀ W : World, RowIs (fun k => w.heap.size ≤ k) W (.slice none 0 0) [] := fun W => ⟨none, 0, rfl, by simp, fun e => absurd rfl e, by simp, fun _ => rfl⟩
  by_cases hn : n < 0
  · rw [show rawR s i n = ([], 1, i) from by simp [rawR, hn]]
    go_enter Tryd.func11, Tryd.ntmps11
    go_wp2
    go_ret2
    exact ⟨_, rfl, hrn _, h, Kept.refl _ _⟩
  · obtain ⟨m, rfl⟩ : ∃ m : Nat, n = m := ⟨n.toNat, by omega⟩
    by_cases hl : s.size - i < m
    · rw [show rawR s i m = ([], 11, i) from by unfold rawR; rw [if_neg (by omega), if_pos (by omega)]]
      go_enter Tryd.func11, Tryd.ntmps11
      go_wp2_with fail
      refine (rleft_any b s i _ h).mono ?_
      rintro e W ⟨rfl, n1, hW⟩
      have hk1 : Kept (only b) w W := by rw [hW]; exact (Kept.refl _ _).drewN n1
      have hr1 : RdAt W b s i := by rw [hW]; exact h.drewN n1
      clear hW
      go_wp2
      go_ret2
      exact ⟨_, rfl, hrn _, hr1, hk1⟩
    · rw [show rawR s i m = (sub s i m, 0, i + m) from by unfold rawR; rw [if_neg (by omega), if_neg (by omega), Int.toNat_natCast]]
      refine (rrow_own b s i m w h (by omega) (by omega)).mono ?_
      rintro e w' ⟨g, rfl, hg, ho, hr, hk⟩
      have hlen : ((sub s i m).map s8).length = m := by rw [List.length_map, sub_length s i m (by omega)]
      refine ⟨_, rfl, ⟨_, m, by rw [hlen], by rw [hlen]; omega, fun _ => ⟨g, 0, rfl, hg, owns_lt ho rfl, fun t ht => ?_⟩, ?_, fun e => by cases e⟩, hr, hk⟩
      · rw [hlen] at ht
        rw [Nat.zero_add, ho.cellAt t (by omega), List.getElem?_map, List.getD_eq_getElem?_getD]
        rw [List.getElem?_eq_getElem (by rw [hlen]; exact ht)]
        rfl
      · intro z hz
        obtain ⟨c, _, rfl⟩ := List.mem_map.1 hz
        exact s8_range c

end Go.Proofs.YtcdgphneljgooabDoor
