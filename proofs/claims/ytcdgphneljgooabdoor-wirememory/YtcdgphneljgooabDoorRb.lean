/-
  What the document's own Number, Row and Text make, and what rows answers, each told of cells.
-/
import Derived.Test.YtcdgphneljgooabDoorRa
namespace Go.Proofs.YtcdgphneljgooabDoor
open Go.RowKit

/-- A row that is the call's own: bytes in a block from B on. -/
abbrev OwnB (B : Nat) (w : World) (v : Value) (bs : List UInt8) : Prop := w.ownsRow B 5 1 v bs.length (bytesV bs)

theorem ownB_empty (w : World) : OwnB w.heap.size (w.alloc (.cells #[] 5)) (.slice (some ⟨w.heap.size, 0, none⟩) 0 0) [] :=
  ⟨rfl, .inr ⟨w.heap.size, 0, #[], rfl, Nat.le_refl _, heap_alloc_new w _, Nat.le_refl _, Nat.zero_le _, rfl, rfl⟩⟩

/-- What such a row is as a text. -/
theorem ownB_text {B : Nat} {w : World} {v : Value} {bs : List UInt8} (h : OwnB B w v bs) : (convert 73 9 v).run Tryd.prog w = .ok (.string ⟨bs.toArray⟩) w := by
  rcases h.2 with ⟨h, h0⟩ | ⟨g, cap, cur, h, _, hh, hle, hmx, hsz, htk⟩
  · have hb : bs = [] := List.eq_nil_of_length_eq_zero h0
    subst h; subst hb
    exact Lib.run_convert_nil_bytes w _ _ 5 0 Tryd.underlying73 Tryd.underlying5 Tryd.underlying9
  · subst h
    exact run_convert_bytes_back w _ _ 5 _ cap bs Tryd.underlying73 Tryd.underlying5 Tryd.underlying9 (Lib.bytes_of_row hh (by rw [Nat.mul_one] at htk; exact htk))

theorem fresh_grown {w w0 w1 : World} {B : Nat} {v : Value} {n : Nat} {xs : List Value} {e : TypeId} {size : Nat} (hk : Fresh w w0) (hown : w0.ownsRow B e size v n xs) (hB : w.heap.size ≤ B) {o : Obj} (hg : (w0.alloc o).grownBy w1 v.ownBlock) : Fresh w w1 := by
  refine (hk.alloc o).grown hg (fun k hk e => ?_)
  rcases hown.2 with ⟨rfl, _⟩ | ⟨g, cap, cur, rfl, hb, _⟩
  · simp [Value.ownBlock] at e
  · simp [Value.ownBlock] at e; omega

theorem wrap_rem (m j : Nat) : IntKind.u8.wrap (((m / 256 ^ j : Nat) : Int) % 256) = ((byteOf m j).toNat : Int) := by
  rw [byteOf_toNat, IntKind.wrap_u8]; omega
theorem div_next (m j : Nat) : ((m / 256 ^ j : Nat) : Int) / 256 = ((m / 256 ^ (j + 1) : Nat) : Int) := by
  rw [Nat.pow_succ, ← Nat.div_div_eq_div_mul]; omega

set_option maxHeartbeats 800000 in
set_option maxRecDepth 100000 in
theorem refNumber_ok (n bytes : Int) (w : World) (hz : isSz bytes = true) (h0 : 0 ≤ n) (hx : n ≤ 9223372036854775807) (h1 : n < 256 ^ bytes.toNat) :
    Calls Tryd.prog 51 #[.int .i64 n, .int .i64 bytes] w fun e w' => e = .returned (.tuple #[.string ⟨(le n.toNat bytes.toNat).toArray⟩, .int .i64 0]) ∧ Fresh w w' := by
  obtain ⟨i0, hi, hz0, hz1, hz2⟩ := info_parts Tryd.infoB
  obtain ⟨m, rfl⟩ := Int.eq_ofNat_of_zero_le h0
  have hc := isSz_cases hz
  obtain ⟨k, rfl⟩ : ∃ k : Nat, bytes = k := ⟨bytes.toNat, by omega⟩
  simp only [Int.toNat_natCast] at h1 ⊢
  have hk8 : k ≤ 8 := by omega
  have hcase : (k = 8 ∨ (m : Int) < 256 ^ k) ∧ (k = 1 → m < 256) ∧ (k = 2 → m < 65536) ∧ (k = 4 → m < 4294967296) := by
    refine ⟨.inr h1, ?_, ?_, ?_⟩ <;> (rintro rfl; simp at h1; omega)
  go_enter Tryd.func51, Tryd.ntmps51
  go_wp2_with fail
  refine (refSize_any _ _).mono ?_
  rintro e w' ⟨rfl, rfl⟩
  rw [hz]
  have hstart : (if k = 8 then True else (m : Int) < 256 ^ k) := by split <;> first | trivial | exact h1
  rcases (show k = 1 ∨ k = 2 ∨ k = 4 ∨ k = 8 by omega) with rfl | rfl | rfl | rfl
  · have hm : m < 256 := by have := hcase.2.1; simp at this; omega
    clear hcase hstart h1 hc
    go_wp2
    go_loopw [0, 6, 7] (fun a v i wr => ∃ j : Nat, j ≤ 1 ∧ i = .int .i64 j ∧ a = .int .i64 ((m / 256 ^ j : Nat) : Int) ∧ OwnB w'.heap.size wr v (le m j) ∧ Fresh w' wr) (fun _ _ i _ => 8 - (intOf i).toNat)
    case atStart => exact ⟨0, by omega, rfl, by simp, ownB_empty w', (Kept.refl _ _).alloc _⟩
    case round =>
      obtain ⟨j, hj, rfl, rfl, hown, hfr⟩ := hrel
      by_cases hlt : j < 1
      · have hq := Nat.div_le_self m (256 ^ j)
        have hcv : IntKind.u8.wrap (((m / 256 ^ j : Nat) : Int) % 256) = ((byteOf m j).toNat : Int) := wrap_rem m j
        have HD : Hid (((m / 256 ^ j : Nat) : Int) / 256 = ((m / 256 ^ (j + 1) : Nat) : Int)) := div_next m j
        have hll : (le m j).length ≤ 8 := by rw [le_length]; omega
        have HL : Hid (le m (j + 1) = le m j ++ [byteOf m j]) := le_succ m j
        generalize m / 256 ^ j = q at *
        have hbn : w'.heap.size ≤ wr.heap.size := hfr.size
        generalize hxs : le m j = xs at *
        go_wp2_with (at_builtin; refine wpList_append_lies _ rfl _ _ _ rfl w'.heap.size 5 i0 _ 1 1 Tryd.underlying73 hi hz0 hz1 hz2 rfl (by omega) _ _ _ rfl (hown.alloc _) ⟨wr.heap.size, 0, none⟩ 1 1 [.int .u8 ((byteOf m j).toNat : Int)] rfl rfl (World.news_of_block (cs := #[.int .u8 ((byteOf m j).toNat : Int)]) (t := 5) (fr := (0, 0)) (heap_alloc_new wr _)) (by simp [Value.oneCell']) (by omega) (by unfold maxLen; omega) (by omega) (by simp; omega) (wr.heap.size + 1) (by simp) ?_; intro g cap w1 hown1 hgrow hat hlt1)
        have r1 : OwnB w'.heap.size w1 (.slice (some ⟨g, 0, none⟩) (xs.length + 1) cap) (le m (j + 1)) := by
          rw [HL.out]
          show w1.ownsRow _ _ _ _ (xs ++ [byteOf m j]).length _
          rw [bytesV_append, List.length_append]
          exact hown1
        have r2 : Fresh w' w1 := fresh_grown hfr hown (Nat.le_refl _) hgrow
        clear hown1 hgrow hat hlt1
        go_roundw
        case rel => exact ⟨j + 1, by omega, by go_num, by rw [HD.out], r1, r2⟩
        case measure => simp [intOf]; omega
      · obtain rfl : j = 1 := by omega
        have hcv := ownB_text hown
        have hshape := ownsRow_shape hown
        obtain ⟨ao, cp, rfl⟩ := hshape
        go_wp2
        go_ret2
        exact ⟨rfl, hfr⟩
  · have hm : m < 65536 := by have := hcase.2.2.1; simp at this; omega
    clear hcase hstart h1 hc
    go_wp2
    go_loopw [0, 6, 7] (fun a v i wr => ∃ j : Nat, j ≤ 2 ∧ i = .int .i64 j ∧ a = .int .i64 ((m / 256 ^ j : Nat) : Int) ∧ OwnB w'.heap.size wr v (le m j) ∧ Fresh w' wr) (fun _ _ i _ => 8 - (intOf i).toNat)
    case atStart => exact ⟨0, by omega, rfl, by simp, ownB_empty w', (Kept.refl _ _).alloc _⟩
    case round =>
      obtain ⟨j, hj, rfl, rfl, hown, hfr⟩ := hrel
      by_cases hlt : j < 2
      · have hq := Nat.div_le_self m (256 ^ j)
        have hcv : IntKind.u8.wrap (((m / 256 ^ j : Nat) : Int) % 256) = ((byteOf m j).toNat : Int) := wrap_rem m j
        have HD : Hid (((m / 256 ^ j : Nat) : Int) / 256 = ((m / 256 ^ (j + 1) : Nat) : Int)) := div_next m j
        have hll : (le m j).length ≤ 8 := by rw [le_length]; omega
        have HL : Hid (le m (j + 1) = le m j ++ [byteOf m j]) := le_succ m j
        generalize m / 256 ^ j = q at *
        have hbn : w'.heap.size ≤ wr.heap.size := hfr.size
        generalize hxs : le m j = xs at *
        go_wp2_with (at_builtin; refine wpList_append_lies _ rfl _ _ _ rfl w'.heap.size 5 i0 _ 1 1 Tryd.underlying73 hi hz0 hz1 hz2 rfl (by omega) _ _ _ rfl (hown.alloc _) ⟨wr.heap.size, 0, none⟩ 1 1 [.int .u8 ((byteOf m j).toNat : Int)] rfl rfl (World.news_of_block (cs := #[.int .u8 ((byteOf m j).toNat : Int)]) (t := 5) (fr := (0, 0)) (heap_alloc_new wr _)) (by simp [Value.oneCell']) (by omega) (by unfold maxLen; omega) (by omega) (by simp; omega) (wr.heap.size + 1) (by simp) ?_; intro g cap w1 hown1 hgrow hat hlt1)
        have r1 : OwnB w'.heap.size w1 (.slice (some ⟨g, 0, none⟩) (xs.length + 1) cap) (le m (j + 1)) := by
          rw [HL.out]
          show w1.ownsRow _ _ _ _ (xs ++ [byteOf m j]).length _
          rw [bytesV_append, List.length_append]
          exact hown1
        have r2 : Fresh w' w1 := fresh_grown hfr hown (Nat.le_refl _) hgrow
        clear hown1 hgrow hat hlt1
        go_roundw
        case rel => exact ⟨j + 1, by omega, by go_num, by rw [HD.out], r1, r2⟩
        case measure => simp [intOf]; omega
      · obtain rfl : j = 2 := by omega
        have hcv := ownB_text hown
        have hshape := ownsRow_shape hown
        obtain ⟨ao, cp, rfl⟩ := hshape
        go_wp2
        go_ret2
        exact ⟨rfl, hfr⟩
  · have hm : m < 4294967296 := by have := hcase.2.2.2; simp at this; omega
    clear hcase hstart h1 hc
    go_wp2
    go_loopw [0, 6, 7] (fun a v i wr => ∃ j : Nat, j ≤ 4 ∧ i = .int .i64 j ∧ a = .int .i64 ((m / 256 ^ j : Nat) : Int) ∧ OwnB w'.heap.size wr v (le m j) ∧ Fresh w' wr) (fun _ _ i _ => 8 - (intOf i).toNat)
    case atStart => exact ⟨0, by omega, rfl, by simp, ownB_empty w', (Kept.refl _ _).alloc _⟩
    case round =>
      obtain ⟨j, hj, rfl, rfl, hown, hfr⟩ := hrel
      by_cases hlt : j < 4
      · have hq := Nat.div_le_self m (256 ^ j)
        have hcv : IntKind.u8.wrap (((m / 256 ^ j : Nat) : Int) % 256) = ((byteOf m j).toNat : Int) := wrap_rem m j
        have HD : Hid (((m / 256 ^ j : Nat) : Int) / 256 = ((m / 256 ^ (j + 1) : Nat) : Int)) := div_next m j
        have hll : (le m j).length ≤ 8 := by rw [le_length]; omega
        have HL : Hid (le m (j + 1) = le m j ++ [byteOf m j]) := le_succ m j
        generalize m / 256 ^ j = q at *
        have hbn : w'.heap.size ≤ wr.heap.size := hfr.size
        generalize hxs : le m j = xs at *
        go_wp2_with (at_builtin; refine wpList_append_lies _ rfl _ _ _ rfl w'.heap.size 5 i0 _ 1 1 Tryd.underlying73 hi hz0 hz1 hz2 rfl (by omega) _ _ _ rfl (hown.alloc _) ⟨wr.heap.size, 0, none⟩ 1 1 [.int .u8 ((byteOf m j).toNat : Int)] rfl rfl (World.news_of_block (cs := #[.int .u8 ((byteOf m j).toNat : Int)]) (t := 5) (fr := (0, 0)) (heap_alloc_new wr _)) (by simp [Value.oneCell']) (by omega) (by unfold maxLen; omega) (by omega) (by simp; omega) (wr.heap.size + 1) (by simp) ?_; intro g cap w1 hown1 hgrow hat hlt1)
        have r1 : OwnB w'.heap.size w1 (.slice (some ⟨g, 0, none⟩) (xs.length + 1) cap) (le m (j + 1)) := by
          rw [HL.out]
          show w1.ownsRow _ _ _ _ (xs ++ [byteOf m j]).length _
          rw [bytesV_append, List.length_append]
          exact hown1
        have r2 : Fresh w' w1 := fresh_grown hfr hown (Nat.le_refl _) hgrow
        clear hown1 hgrow hat hlt1
        go_roundw
        case rel => exact ⟨j + 1, by omega, by go_num, by rw [HD.out], r1, r2⟩
        case measure => simp [intOf]; omega
      · obtain rfl : j = 4 := by omega
        have hcv := ownB_text hown
        have hshape := ownsRow_shape hown
        obtain ⟨ao, cp, rfl⟩ := hshape
        go_wp2
        go_ret2
        exact ⟨rfl, hfr⟩
  · have hm : m < 9223372036854775808 := by omega
    clear hcase hstart h1 hc
    go_wp2
    go_loopw [0, 6, 7] (fun a v i wr => ∃ j : Nat, j ≤ 8 ∧ i = .int .i64 j ∧ a = .int .i64 ((m / 256 ^ j : Nat) : Int) ∧ OwnB w'.heap.size wr v (le m j) ∧ Fresh w' wr) (fun _ _ i _ => 8 - (intOf i).toNat)
    case atStart => exact ⟨0, by omega, rfl, by simp, ownB_empty w', (Kept.refl _ _).alloc _⟩
    case round =>
      obtain ⟨j, hj, rfl, rfl, hown, hfr⟩ := hrel
      by_cases hlt : j < 8
      · have hq := Nat.div_le_self m (256 ^ j)
        have hcv : IntKind.u8.wrap (((m / 256 ^ j : Nat) : Int) % 256) = ((byteOf m j).toNat : Int) := wrap_rem m j
        have HD : Hid (((m / 256 ^ j : Nat) : Int) / 256 = ((m / 256 ^ (j + 1) : Nat) : Int)) := div_next m j
        have hll : (le m j).length ≤ 8 := by rw [le_length]; omega
        have HL : Hid (le m (j + 1) = le m j ++ [byteOf m j]) := le_succ m j
        generalize m / 256 ^ j = q at *
        have hbn : w'.heap.size ≤ wr.heap.size := hfr.size
        generalize hxs : le m j = xs at *
        go_wp2_with (at_builtin; refine wpList_append_lies _ rfl _ _ _ rfl w'.heap.size 5 i0 _ 1 1 Tryd.underlying73 hi hz0 hz1 hz2 rfl (by omega) _ _ _ rfl (hown.alloc _) ⟨wr.heap.size, 0, none⟩ 1 1 [.int .u8 ((byteOf m j).toNat : Int)] rfl rfl (World.news_of_block (cs := #[.int .u8 ((byteOf m j).toNat : Int)]) (t := 5) (fr := (0, 0)) (heap_alloc_new wr _)) (by simp [Value.oneCell']) (by omega) (by unfold maxLen; omega) (by omega) (by simp; omega) (wr.heap.size + 1) (by simp) ?_; intro g cap w1 hown1 hgrow hat hlt1)
        have r1 : OwnB w'.heap.size w1 (.slice (some ⟨g, 0, none⟩) (xs.length + 1) cap) (le m (j + 1)) := by
          rw [HL.out]
          show w1.ownsRow _ _ _ _ (xs ++ [byteOf m j]).length _
          rw [bytesV_append, List.length_append]
          exact hown1
        have r2 : Fresh w' w1 := fresh_grown hfr hown (Nat.le_refl _) hgrow
        clear hown1 hgrow hat hlt1
        go_roundw
        case rel => exact ⟨j + 1, by omega, by go_num, by rw [HD.out], r1, r2⟩
        case measure => simp [intOf]; omega
      · obtain rfl : j = 8 := by omega
        have hcv := ownB_text hown
        have hshape := ownsRow_shape hown
        obtain ⟨ao, cp, rfl⟩ := hshape
        go_wp2
        go_ret2
        exact ⟨rfl, hfr⟩

theorem b8_rem (z : Int) : z % 256 = ((b8 z).toNat : Int) := by
  have e := b8_wrap z
  rw [IntKind.wrap_u8] at e
  exact e
theorem u8_byte (b : UInt8) : IntKind.u8.wrap (b.toNat : Int) = (b.toNat : Int) := by
  have := b.toNat_lt
  rw [IntKind.wrap_u8]
  omega

theorem take_b8 (zs : List Int) (j : Nat) (h : j < zs.length) : (zs.take (j + 1)).map b8 = (zs.take j).map b8 ++ [b8 (zs.getD j 0)] := by
  rw [List.take_succ_eq_append_getElem h, List.map_append, List.getD_eq_getElem?_getD, List.getElem?_eq_getElem h]; rfl

theorem getD_mem (zs : List Int) (j : Nat) (h : j < zs.length) : zs.getD j 0 ∈ zs := by
  rw [List.getD_eq_getElem?_getD, List.getElem?_eq_getElem h]; exact List.getElem_mem h

set_option maxHeartbeats 800000 in
theorem refRow_any (p : Nat → Prop) (rv : Value) (zs : List Int) (w : World) (hr : RowIs p w rv zs) :
    Calls Tryd.prog 22 #[rv] w fun e w' => e = .returned (.string ⟨(zs.map b8).toArray⟩) ∧ Fresh w w' := by
  obtain ⟨i0, hi, hz0, hz1, hz2⟩ := info_parts Tryd.infoB
  obtain ⟨ao, cap, rfl, hzl, hcell, hrange, _⟩ := hr
  go_enter Tryd.func22, Tryd.ntmps22
  go_wp2
  go_loopw [3, 4] (fun v i wr => ∃ j : Nat, j ≤ zs.length ∧ i = .int .i64 j ∧ OwnB w.heap.size wr v ((zs.take j).map b8) ∧ Fresh w wr) (fun _ i _ => zs.length - (intOf i).toNat)
  case atStart => exact ⟨0, by omega, rfl, ownB_empty w, (Kept.refl _ _).alloc _⟩
  case round =>
    obtain ⟨j, hj, rfl, hown, hfr⟩ := hrel
    by_cases hlt : j < zs.length
    · obtain ⟨rb, off, rfl, hpb, hrb, hcl⟩ := hcell (fun e => by rw [e] at hlt; simp at hlt)
      have hcz : wr.cell? ⟨rb, off + j, none⟩ = some (.int .i8 (zs.getD j 0)) := (hfr.cell (p := ⟨rb, off + j, none⟩) hrb (fun e => e)).trans (hcl j hlt)
      have hzr := hrange _ (getD_mem zs j hlt)
      have hz3 := hzr.1
      have hz4 := hzr.2
      clear hcell hcl hrange hzr
      have hcv := b8_rem (zs.getD j 0)
      have hcu := u8_byte (b8 (zs.getD j 0))
      have HT : Hid ((zs.take (j + 1)).map b8 = (zs.take j).map b8 ++ [b8 (zs.getD j 0)]) := take_b8 zs j hlt
      have hll : ((zs.take j).map b8).length ≤ 140737488351232 := by rw [List.length_map, List.length_take]; omega
      have hbn : w.heap.size ≤ wr.heap.size := hfr.size
      generalize hxs : (zs.take j).map b8 = xs at *
      generalize zs.getD j 0 = z at *
      go_wp2_with (at_builtin; refine wpList_append_lies _ rfl _ _ _ rfl w.heap.size 5 i0 _ 1 1 Tryd.underlying73 hi hz0 hz1 hz2 rfl (by omega) _ _ _ rfl (hown.alloc _) ⟨wr.heap.size, 0, none⟩ 1 1 [.int .u8 ((b8 z).toNat : Int)] rfl rfl (World.news_of_block (cs := #[.int .u8 ((b8 z).toNat : Int)]) (t := 5) (fr := (0, 0)) (heap_alloc_new wr _)) (by simp [Value.oneCell']) (by omega) (by unfold maxLen; omega) (by omega) (by simp; omega) (wr.heap.size + 1) (by simp) ?_; intro g cap w1 hown1 hgrow hat hlt1)
      have r1 : OwnB w.heap.size w1 (.slice (some ⟨g, 0, none⟩) (xs.length + 1) cap) ((zs.take (j + 1)).map b8) := by
        rw [HT.out]
        show w1.ownsRow _ _ _ _ (xs ++ [b8 z]).length _
        rw [bytesV_append, List.length_append]
        exact hown1
      have r2 : Fresh w w1 := fresh_grown hfr hown (Nat.le_refl _) hgrow
      clear hown1 hgrow hat hlt1
      go_roundw
      case rel => exact ⟨j + 1, by omega, by go_num, r1, r2⟩
      case measure => simp [intOf]; omega
    · obtain rfl : j = zs.length := by omega
      rw [List.take_length] at hown
      generalize hxe : zs.map b8 = xs at *
      have HX : Hid (zs.map b8 = xs) := hxe
      clear hxe
      have hcv := ownB_text hown
      obtain ⟨ao, cp, rfl⟩ := ownsRow_shape hown
      go_wp2
      go_ret
      exact ⟨ret_string (by rw [HX.out]), hfr⟩

set_option maxHeartbeats 800000 in
theorem rows_any (p q : Nat → Prop) (ra rb : Value) (za zb : List Int) (w : World) (ha : RowIs p w ra za) (hb : RowIs q w rb zb) :
    Calls Tryd.prog 24 #[ra, rb] w fun e w' => e = .returned (.bool (decide (za = zb))) ∧ ∃ n, w' = w.drewN n := by
  obtain ⟨ao, capa, rfl, hla, hca, _⟩ := ha
  obtain ⟨bo, capb, rfl, hlb, hcb, _⟩ := hb
  by_cases hl : za.length = zb.length
  · have hl' : ((za.length : Int) == (zb.length : Int)) = true := by simp [hl]
    go_enter Tryd.func24, Tryd.ntmps24
    rw [hl]
    go_wp2
    go_loopw [5] (fun i wr => ∃ j : Nat, j ≤ zb.length ∧ i = .int .i64 j ∧ za.take j = zb.take j ∧ ∃ n, wr = w.drewN n) (fun i _ => zb.length - (intOf i).toNat)
    case atStart => exact ⟨0, by omega, rfl, by simp, 0, rfl⟩
    case round =>
      obtain ⟨j, hj, rfl, heq, n, hwr⟩ := hrel
      by_cases hlt : j < zb.length
      · obtain ⟨b1, o1, rfl, _, _, hc1⟩ := hca (fun e => by rw [e] at hl; simp at hl; omega)
        obtain ⟨b2, o2, rfl, _, _, hc2⟩ := hcb (fun e => by rw [e] at hlt; simp at hlt)
        have g1 : wr.cell? ⟨b1, o1 + j, none⟩ = some (.int .i8 (za.getD j 0)) := by rw [hwr]; exact hc1 j (by omega)
        have g2 : wr.cell? ⟨b2, o2 + j, none⟩ = some (.int .i8 (zb.getD j 0)) := by rw [hwr]; exact hc2 j hlt
        have hwn : ∀ m, ∃ n', wr.drewN m = w.drewN n' := fun m => ⟨n + m, by rw [hwr]; simp [World.drewN, Nat.add_assoc]⟩
        have hsn : za.getD j 0 = zb.getD j 0 → za.take (j + 1) = zb.take (j + 1) := fun e => by
          rw [List.getD_eq_getElem?_getD, List.getD_eq_getElem?_getD, List.getElem?_eq_getElem (by omega), List.getElem?_eq_getElem hlt] at e
          have e' : za[j]'(by omega) = zb[j] := e
          rw [List.take_succ_eq_append_getElem (by omega), List.take_succ_eq_append_getElem hlt, heq, e']
        have hne : za.getD j 0 ≠ zb.getD j 0 → decide (za = zb) = false := fun e => by
          rw [decide_eq_false_iff_not]; rintro rfl; exact e rfl
        have HS := show Hid _ from hsn
        have HN := show Hid _ from hne
        have HW := show Hid _ from hwn
        have HE := show Hid _ from heq
        clear hc1 hc2 hsn hne hwn hwr heq hca hcb
        have hj0 : (0 : Int) ≤ (j : Int) := by omega
        have hj1 : (j : Int) < (zb.length : Int) := by omega
        generalize za.getD j 0 = x at *
        generalize zb.getD j 0 = y at *
        by_cases hxy : x = y
        · subst hxy
          go_wp2_with fail
          go_quiet (fail)
          go_wp2
          go_roundw
          case rel => exact ⟨j + 1, by omega, by go_num, HS.out (by trivial), HW.out _⟩
          case measure => simp [intOf]; omega
        · have hb1 : (x != y) = true := by simp [hxy]
          go_wp2_with fail
          go_quiet (fail)
          go_wp2
          go_ret
          exact ⟨ret_bool (HN.out hxy).symm, HW.out _⟩
      · obtain rfl : j = zb.length := by omega
        have he : za = zb := by
          rw [List.take_length, ← hl, List.take_length] at heq
          exact heq
        have HD : Hid (decide (za = zb) = true) := by show decide _ = true; simp [he]
        have HW : Hid (∃ n, wr = w.drewN n) := ⟨n, hwr⟩
        clear hwr he heq
        go_wp2
        go_ret
        exact ⟨ret_bool HD.out.symm, HW.out⟩
  · have hl' : ((za.length : Int) != (zb.length : Int)) = true := by simp; omega
    have HD : Hid (decide (za = zb) = false) := by show decide _ = false; rw [decide_eq_false_iff_not]; rintro rfl; exact hl rfl
    go_enter Tryd.func24, Tryd.ntmps24
    go_wp2
    go_ret
    exact ⟨ret_bool HD.out.symm, 0, rfl⟩

end Go.Proofs.YtcdgphneljgooabDoor
