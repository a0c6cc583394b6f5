/-
  What Row, Raw, Text of package wire's Writer do, each told of cells.
-/
import Derived.Test.YtcdgphneljgooabDoorWc
import Derived.Test.YtcdgphneljgooabDoorOps
namespace Go.Proofs.YtcdgphneljgooabDoor
open Go.RowKit

/-- Appending a text's bytes to a row: where the new slice lies. -/
theorem run_append_str {P : Program} (w : World) (t u ty e : TypeId) (i : TypeInfo) (ht : P.underlying t = some (.slice e)) (hu : P.underlying u = some .string) (hi : P.info? e = some i) (hz : i.zero = some (.int .u8 0))
    (hsize : i.size = 1) (hby : i.bytes = 1) (v : Value) (n : Nat) (xs : List Value) (hown : w.ownsRow 0 e 1 v n xs) (s : ByteArray) (hb : n + s.size ≤ 1000000000000) :
    ∃ v' w', (Builtin.append_ #[t, u] ty #[v, .string s]).run P w = .ok v' w' ∧ w'.ownsRow 0 e 1 v' (n + s.size) (xs ++ bytesV s.data.toList) ∧ w.grownBy w' v.ownBlock ∧
      (v'.ownBlock = v.ownBlock ∨ ∃ g, v'.ownBlock = some g ∧ w.heap.size ≤ g) := by
  obtain ⟨v', w', hr, h2, h3, _⟩ := Lib.run_append_own_string (P := P) w 0 t u ty e i ht hu hi hz hsize hby v n xs hown s (by unfold maxLen; omega) (by omega) (Nat.zero_le _)
  refine ⟨v', w', hr, h2, h3, ?_⟩
  rcases hown.2 with ⟨rfl, rfl⟩ | ⟨g, cap, cur, rfl, _, hg, hnc, hcm, hcs, htk⟩
  · have hx : xs = [] := List.eq_nil_of_length_eq_zero (by simpa using hown.1)
    subst hx
    obtain ⟨v2, w2, hr2, h22, _, _⟩ := Lib.run_append_own_string (P := P) w w.heap.size t u ty e i ht hu hi hz hsize hby _ 0 [] (World.ownsRow_nil _ _ _ _) s (by unfold maxLen; omega) (by omega) (Nat.le_refl _)
    rw [hr] at hr2
    simp only [Result.ok.injEq] at hr2
    obtain ⟨rfl, rfl⟩ := hr2
    rcases h22.2 with ⟨rfl, _⟩ | ⟨g, cap, cur, rfl, hb, _⟩
    · exact .inl rfl
    · exact .inr ⟨g, rfl, hb⟩
  · by_cases hroom : n + s.size ≤ cap
    · have hr2 := Lib.run_append_room_string (P := P) w t u ty e i ht hu hi hsize g n cap cur hg s hroom (by omega)
      rw [hr] at hr2
      simp only [Result.ok.injEq] at hr2
      exact .inl (by rw [hr2.1]; rfl)
    · have hr2 := Lib.run_append_grow_string (P := P) w t u ty e i (.int .u8 0) ht hu hi hz ⟨g, 0, none⟩ n cap xs (by rw [hsize]; exact hown.1) (hown.cells (g := g) rfl) s (by omega) (by omega) (by rw [hby]; exact growslice_fits (by omega) (by omega))
      rw [hr] at hr2
      simp only [Result.ok.injEq] at hr2
      exact .inr ⟨w.heap.size, by rw [hr2.1]; rfl, Nat.le_refl _⟩

/-- One append through the pointer, whatever came of it, and the store of the new slice. -/
theorem wr_step' {w w0 w1 : World} {b n : Nat} {v v' : Value} {bs news : List UInt8} (hw : WrAt w b v bs) (h0 : Fresh w w0) (hg : w0.grownBy w1 v.ownBlock)
    (hown : w1.ownsRow 0 5 1 v' n (bytesV (bs ++ news))) (hn : n = (bs ++ news).length) (hat : v'.ownBlock = v.ownBlock ∨ ∃ g, v'.ownBlock = some g ∧ w.heap.size ≤ g) :
    WrAt (w1.setCell ⟨b, 0, none⟩ v') b v' (bs ++ news) ∧ Kept (wset b v) w (w1.setCell ⟨b, 0, none⟩ v') ∧ RowMoved w v v' := by
  have hb := lt_of_heap hw.1
  have h1 : w1.heap[b]? = some (.cells #[v] 75 (0, 0)) :=
    (hg.block b (Nat.lt_of_lt_of_le hb h0.size) (fun e => hw.apart e.symm)).trans (h0.at hw.1 (fun e => e))
  have hgb : v'.ownBlock ≠ some b := by
    rcases hat with h | ⟨g, h, hge⟩
    · rw [h]; exact hw.apart
    · rw [h]; intro e; simp at e; omega
  refine ⟨⟨one_setCell h1, ?_⟩, ?_, hat⟩
  · rw [← hn]
    exact ownsRow_setCell_other hown hgb _
  · have k1 : Kept (wset b v) w w0 := h0.mono (fun _ _ e => e.elim)
    have k2 := k1.grown hg (fun k _ e => .inr e)
    exact k2.setCell (fun _ => .inl rfl) _

theorem ownsRow_shape {w : World} {base : Nat} {e : TypeId} {size : Nat} {v : Value} {n : Nat} {xs : List Value} (h : w.ownsRow base e size v n xs) : ∃ ao cp, v = .slice ao n cp := by
  rcases h.2 with ⟨h, h0⟩ | ⟨g, cap, cur, h, _⟩
  · exact ⟨none, 0, by rw [h, h0]⟩
  · exact ⟨_, cap, h⟩

set_option maxHeartbeats 400000 in
theorem wraw_any (b : Nat) (v : Value) (bs : List UInt8) (s : ByteArray) (w : World) (hw : WrAt w b v bs) (hl : bs.length + s.size ≤ 1000000000000) :
    Calls Tryd.prog 9 #[.pointer (some ⟨b, 0, none⟩), .string s] w fun e w' => e = .returned (.tuple #[]) ∧ ∃ v', WrAt w' b v' (bs ++ s.data.toList) ∧ Kept (wset b v) w w' ∧ RowMoved w v v' := by
  obtain ⟨i0, hi, hz0, hz1, hz2⟩ := info_parts Tryd.infoB
  have hc : w.cell? ⟨b, 0, none⟩ = some v := cell_of_one hw.1
  have hlb := lt_of_heap hw.1
  have hap := hw.apart
  obtain ⟨v', w1, hrun, hown1, hgrow, hat⟩ := run_append_str (P := Tryd.prog) w 73 9 73 5 i0 Tryd.underlying73 Tryd.underlying9 hi hz0 hz1 hz2 v _ _ hw.2 s hl
  have hc1 : w1.cell? ⟨b, 0, none⟩ = some v := (hgrow.cell_far ⟨b, 0, none⟩ hlb (Ne.symm hap)).trans hc
  have hf1 : w1.frozen? ⟨b, 0, none⟩ = false := (hgrow.frozen_far ⟨b, 0, none⟩ hlb (Ne.symm hap)).trans (free_of_one hw.1)
  obtain ⟨r1, r2, r3⟩ := wr_step' hw (Kept.refl _ w) hgrow (by rw [bytesV_append]; exact hown1) (by rw [List.length_append, ← Lib.size_eq]) hat
  obtain ⟨ao, cp, rfl⟩ := ownsRow_shape hown1
  obtain ⟨ao0, cp0, rfl⟩ := ownsRow_shape hw.2
  go_enter Tryd.func9, Tryd.ntmps9
  go_wp2_with (at_builtin; refine Lib.wpList_append_run _ rfl _ _ _ _ rfl _ _ rfl rfl _ _ hrun ?_)
  go_end0
  exact ⟨rfl, _, r1, r2, r3⟩

/-- A number of 8 bits as a byte. -/
def b8 (z : Int) : UInt8 := UInt8.ofNat (z % 256).toNat
theorem b8_wrap (z : Int) : IntKind.u8.wrap z = ((b8 z).toNat : Int) := by
  unfold b8
  rw [IntKind.wrap_u8, UInt8.toNat_ofNat']
  omega

set_option maxHeartbeats 400000 in
theorem wrow_any (b : Nat) (v : Value) (bs : List UInt8) (rv : Value) (zs : List Int) (p : Nat → Prop) (w : World) (hw : WrAt w b v bs) (hr : RowIs p w rv zs) (hp : ∀ k, p k → ¬ wset b v k) (hl : bs.length + zs.length ≤ 140737488351232) :
    Calls Tryd.prog 8 #[.pointer (some ⟨b, 0, none⟩), rv] w fun e w' => e = .returned (.tuple #[]) ∧ ∃ v', WrAt w' b v' (bs ++ zs.map b8) ∧ Kept (wset b v) w w' ∧ RowMoved w v v' := by
  obtain ⟨i0, hi, hz0, hz1, hz2⟩ := info_parts Tryd.infoB
  obtain ⟨ao, cap, rfl, hzl, hcell, hrange, _⟩ := hr
  go_enter Tryd.func8, Tryd.ntmps8
  go_wp2
  go_loopw [10] (fun i wr => ∃ j : Nat, j ≤ zs.length ∧ i = .int .i64 j ∧ ∃ v', WrAt wr b v' (bs ++ (zs.take j).map b8) ∧ Kept (wset b v) w wr ∧ RowMoved w v v') (fun i _ => zs.length - (intOf i).toNat)
  case atStart => exact ⟨0, Nat.zero_le _, rfl, v, by simpa using hw, Kept.refl _ _, .inl rfl⟩
  case round =>
    obtain ⟨j, hj, rfl, v1, hw1, hk1, hm1⟩ := hrel
    by_cases hlt : j < zs.length
    · obtain ⟨rb, off, rfl, hpb, hrb, hcl⟩ := hcell (fun e => by rw [e] at hlt; simp at hlt)
      have hcz : wr.cell? ⟨rb, off + j, none⟩ = some (.int .i8 (zs.getD j 0)) := (hk1.cell (p := ⟨rb, off + j, none⟩) hrb (hp rb hpb)).trans (hcl j hlt)
      clear hcell hcl
      have hc : wr.cell? ⟨b, 0, none⟩ = some v1 := cell_of_one hw1.1
      have hf : wr.frozen? ⟨b, 0, none⟩ = false := free_of_one hw1.1
      have hlb := lt_of_heap hw1.1
      have hap := hw1.apart
      have hown := hw1.2
      have hcv : IntKind.u8.wrap (zs.getD j 0) = ((b8 (zs.getD j 0)).toNat : Int) := b8_wrap _
      have hts : (zs.take (j + 1)).map b8 = (zs.take j).map b8 ++ [b8 (zs.getD j 0)] := by
        rw [List.take_succ_eq_append_getElem hlt, List.map_append, List.getD_eq_getElem?_getD, List.getElem?_eq_getElem hlt]; rfl
      have hll : (bs ++ (zs.take j).map b8).length ≤ 140737488351232 := by rw [List.length_append, List.length_map, List.length_take]; omega
      generalize hxs : bs ++ (zs.take j).map b8 = xs at *
      have HX : Hid (bs ++ (zs.take j).map b8 = xs) := hxs
      have HT : Hid ((zs.take (j + 1)).map b8 = (zs.take j).map b8 ++ [b8 (zs.getD j 0)]) := hts
      clear hxs hts
      generalize hzz : zs.getD j 0 = z at *
      clear hzz
      go_wp2_with (at_builtin; refine wpList_append_lies _ rfl _ _ _ rfl 0 5 i0 _ 1 1 Tryd.underlying73 hi hz0 hz1 hz2 rfl (by omega) v1 _ _ rfl (hown.alloc _) ⟨wr.heap.size, 0, none⟩ 1 1 [.int .u8 ((b8 z).toNat : Int)] rfl rfl (World.news_of_block (cs := #[.int .u8 ((b8 z).toNat : Int)]) (t := 5) (fr := (0, 0)) (heap_alloc_new wr _)) (by simp [Value.oneCell']) (by omega) (by unfold maxLen; omega) (by omega) (by omega) (wr.heap.size + 1) (by simp) ?_; intro g cap w1 hown1 hgrow hat hlt1; have hc1 := (grown_cell (w := wr) (i := 0) hgrow rfl hlb hap).trans hc; have hf1 := (grown_frozen (w := wr) (i := 0) hgrow rfl hlb hap).trans hf)
      have hX := HX.out
      obtain ⟨r1, r2, r3⟩ := wr_step (news := [b8 z]) hw1 ((Kept.refl _ wr).alloc _) hgrow (by rw [bytesV_append]; exact hown1) (by simp) (by rcases hat with e | e; exact .inl e; exact .inr (by omega))
      have e1 : xs ++ [b8 z] = bs ++ (zs.take (j + 1)).map b8 := by rw [HT.out, ← hX, List.append_assoc]
      rw [e1] at r1
      have r4 := hk1.trans r2 (wset_moved hm1)
      have r5 := hm1.trans r3 hk1.size
      clear e1 hX HX
      go_roundw
      case rel => exact ⟨j + 1, by omega, by go_num, _, r1, r4, r5⟩
      case measure => simp [intOf]; omega
    · obtain rfl : j = zs.length := by omega
      rw [List.take_length] at hw1
      go_wp2
      go_end0
      exact ⟨rfl, v1, hw1, hk1, hm1⟩

set_option maxHeartbeats 400000 in
theorem wtext_ok (b : Nat) (v : Value) (bs : List UInt8) (s : ByteArray) (w : World) (hw : WrAt w b v bs) (hs : s.size ≤ 4294967295) (hl : bs.length + s.size + 16 ≤ 1000000000000) :
    Calls Tryd.prog 16 #[.pointer (some ⟨b, 0, none⟩), .string s] w fun e w' => e = .returned (.int .i64 0) ∧ ∃ v', WrAt w' b v' (bs ++ (le s.size 4 ++ s.data.toList)) ∧ Kept (wset b v) w w' ∧ RowMoved w v v' := by
  have hwr : IntKind.u64.wrap (s.size : Int) = (s.size : Int) := by rw [IntKind.wrap_u64]; omega
  go_enter Tryd.func16, Tryd.ntmps16
  go_wp2_with fail
  refine (wfixed_any b v bs s.size 4 _ (by omega) hw (by omega)).mono ?_
  rintro e w1 ⟨rfl, v1, q1, q2, q3⟩
  go_wp2_with fail
  refine (wraw_any b v1 _ s _ q1 (by rw [List.length_append, le_length]; omega)).mono ?_
  rintro e w2 ⟨rfl, v2, q4, q5, q6⟩
  rw [List.append_assoc] at q4
  go_wp2
  go_ret
  exact ⟨rfl, v2, q4, q2.trans q5 (wset_moved q3), q3.trans q6 q2.size⟩

set_option maxHeartbeats 400000 in
theorem wnumber_arg (b : Nat) (n bytes : Int) (w : World) (hs : Siz w) (hz : isSz bytes = false) :
    Calls Tryd.prog 15 #[.pointer (some ⟨b, 0, none⟩), .int .i64 n, .int .i64 bytes] w fun e w' => e = .returned (.int .i64 1) ∧ w' = w := by
  go_enter Tryd.func15, Tryd.ntmps15
  go_wp2_with fail
  refine (isSize_any _ _ hs).mono ?_
  rintro e w' ⟨rfl, rfl⟩
  rw [hz]
  go_wp2
  go_ret
  exact ⟨rfl, rfl⟩

/-- No room in so many bytes. -/
theorem shr_none (n : Int) (k : Nat) (h1 : 256 ^ k ≤ n) : (n / 2 ^ (8 * k) != 0) = true := by
  have e : (2 : Int) ^ (8 * k) = 256 ^ k := by rw [Int.pow_mul]; rfl
  rw [e, bne_iff_ne]
  have hp : (0 : Int) < 256 ^ k := Int.pow_pos (by omega)
  have : 1 ≤ n / 256 ^ k := by rw [Int.le_ediv_iff_mul_le hp]; omega
  omega

set_option maxHeartbeats 400000 in
theorem wnumber_wide (b : Nat) (n bytes : Int) (w : World) (hs : Siz w) (hz : isSz bytes = true) (hn : n < 0 ∨ 256 ^ bytes.toNat ≤ n) :
    Calls Tryd.prog 15 #[.pointer (some ⟨b, 0, none⟩), .int .i64 n, .int .i64 bytes] w fun e w' => e = .returned (.int .i64 10) ∧ w' = w := by
  have hc := isSz_cases hz
  obtain ⟨k, rfl⟩ : ∃ k : Nat, bytes = k := ⟨bytes.toNat, by omega⟩
  have hk : k ≤ 8 := by omega
  simp only [Int.toNat_natCast] at hn
  by_cases h0 : n < 0
  · go_enter Tryd.func15, Tryd.ntmps15
    go_wp2_with fail
    refine (isSize_any _ _ hs).mono ?_
    rintro e w' ⟨rfl, rfl⟩
    rw [hz]
    go_wp2
    go_ret
    exact ⟨rfl, rfl⟩
  · have h1 := hn.resolve_left h0
    have hsh := shr_none n k h1
    have h0' : 0 ≤ n := by omega
    go_enter Tryd.func15, Tryd.ntmps15
    go_wp2_with fail
    refine (isSize_any _ _ hs).mono ?_
    rintro e w' ⟨rfl, rfl⟩
    rw [hz]
    go_wp2
    go_ret
    exact ⟨rfl, rfl⟩

end Go.Proofs.YtcdgphneljgooabDoor
