/-
  strings.ToValidUTF8's parts: a used builder takes a text, a byte; what DecodeRuneInString tells of an end.
-/
import Derived.Test.YtkkaaoflolgaiaaDoorSti
import Derived.Test.YtkkaaoflolgaiaaDoorStm
import Derived.Shelf.Strings.Builder2Cap
import Derived.Lib.AppendStr
namespace Go.Proofs.YtkkaaoflolgaiaaDoor
open Go.RowKit Go.Lib Go.Maps

abbrev BuB (B b : Nat) (a : List UInt8) (w : World) : Prop := Lib.BuilderAt 57 5 B b (.pointer (some ⟨b, 0, none⟩)) (Lib.byteCells a) w
set_option maxHeartbeats 1000000 in
set_option maxRecDepth 100000 in
theorem wrS_any (B b : Nat) (a l : List UInt8) (w : World) (h : BuB B b a w) (hlen : a.length + l.length ≤ 1000000000000) (hBw : B ≤ w.heap.size) :
    Calls Tryd.prog 31 #[.pointer (some ⟨b, 0, none⟩), sV l] w fun e w' => e = .returned (.tuple #[.int .i64 l.length, .nilIface]) ∧ BuB B b (a ++ l) w' ∧ Below B w w' ∧
      ∀ p cap, w.cell? ⟨b, 1, none⟩ = some (.slice p a.length cap) → 0 < cap → a.length + l.length ≤ cap → w'.cell? ⟨b, 1, none⟩ = some (.slice p (a.length + l.length) cap) := by
  obtain ⟨i0, hi, hz0, hz1, hz2⟩ := info_parts infoB
  have HC := show Hid _ from copyCheck_used b w h.cell0
  obtain ⟨hB, v, hbk, hown, hne⟩ := h
  rw [Lib.byteCells_length] at hown
  have hsl : (⟨l.toArray⟩ : ByteArray).size = l.length := len_l l
  obtain ⟨v', w2, hrun, hown', hgrow, _⟩ := Lib.run_append_own_string (P := Tryd.prog) w B 55 9 55 5 i0 Tryd.underlying55 Tryd.underlying9 hi hz0 hz1 hz2 v _ _ hown ⟨l.toArray⟩ (by unfold maxLen; omega) (by omega) hBw
  rw [hsl, Lib.strCells_eq, data_l, ← Lib.byteCells_append] at hown'
  have c1 : w.cell? ⟨b, 1, none⟩ = some v := by rw [Lib.cell_of_heap hbk]; rfl
  have hcap : ∀ p cap, w.cell? ⟨b, 1, none⟩ = some (.slice p a.length cap) → 0 < cap → a.length + l.length ≤ cap → v' = .slice p (a.length + l.length) cap := fun p cap hp h0 hr => by
    rw [c1] at hp
    injection hp with hp
    subst hp
    rcases hown.2 with ⟨e1, _⟩ | ⟨g, cap', cur, e1, _, hg, hnc, hcm, hcs, _⟩
    · injection e1 with _ _ e3; omega
    · injection e1 with e1 _ e3
      subst e1 e3
      have hr2 := Lib.run_append_room_string (P := Tryd.prog) w 55 9 55 5 i0 Tryd.underlying55 Tryd.underlying9 hi hz1 g a.length cap cur hg ⟨l.toArray⟩ (by omega) (by omega)
      rw [hrun, hsl] at hr2
      simp only [Result.ok.injEq] at hr2
      exact hr2.1
  obtain ⟨ao, cp, rfl⟩ := ownsRow_shape hown
  have hlt : b < w.heap.size := lt_of_heap hbk
  have hb2 : w2.heap[b]? = some (.cells #[.pointer (some ⟨b, 0, none⟩), .slice ao a.length cp] 57 (0, 0)) := by
    rw [hgrow.block b hlt (fun e => hne e.symm)]
    exact hbk
  have d1 : w2.cell? ⟨b, 1, none⟩ = some (.slice ao a.length cp) := by rw [Lib.cell_of_heap hb2]; rfl
  have f1 : w2.frozen? ⟨b, 1, none⟩ = false := Lib.frozen_of_heap hb2 1
  obtain ⟨ao2, cp2, rfl⟩ := ownsRow_shape hown'
  have HEnd : Hid (BuB B b (a ++ l) (w2.setCell ⟨b, 1, none⟩ (.slice ao2 (a.length + l.length) cp2)) ∧ Below B w (w2.setCell ⟨b, 1, none⟩ (.slice ao2 (a.length + l.length) cp2)) ∧
      ∀ p cap, w.cell? ⟨b, 1, none⟩ = some (.slice p a.length cap) → 0 < cap → a.length + l.length ≤ cap → (w2.setCell ⟨b, 1, none⟩ (.slice ao2 (a.length + l.length) cp2)).cell? ⟨b, 1, none⟩ = some (.slice p (a.length + l.length) cap)) := by
    refine ⟨Lib.BuilderAt.put (T := 57) (e := 5) hB hb2 (bs' := Lib.byteCells (a ++ l)) (by rw [Lib.byteCells_length, List.length_append]; exact hown') (by decide), ?_, fun p cap hp h0 hr => ?_⟩
    · exact ((Below.refl B w).grown hgrow (by omega) (fun k hk => (hown.lt k hk).1)).setCell (p := ⟨b, 1, none⟩) hB _
    · rw [← hcap p cap hp h0 hr]
      exact World.cell?_setCell_same _ _ _ d1
  clear hown hown' hgrow hcap hb2 hbk hne
  go_enter Tryd.func31, Tryd.ntmps31
  go_wp2_with fail
  refine Calls.mono HC.out ?_
  rintro e w1 ⟨rfl, hW⟩
  have hW' := hW.symm
  subst hW'
  clear HC hW
  go_wp2_with (at_builtin; refine Lib.wpList_append_run _ rfl _ _ _ _ rfl _ _ rfl rfl _ _ hrun ?_)
  go_ret2
  exact ⟨rfl, HEnd.out⟩
set_option maxHeartbeats 1000000 in
set_option maxRecDepth 100000 in
theorem wrB_any (B b : Nat) (a : List UInt8) (c : UInt8) (w : World) (h : BuB B b a w) (hlen : a.length ≤ 1000000000000) (hBw : B ≤ w.heap.size) :
    Calls Tryd.prog 33 #[.pointer (some ⟨b, 0, none⟩), .int .u8 ((c.toNat : Nat) : Int)] w fun e w' => e = .returned .nilIface ∧ BuB B b (a ++ [c]) w' ∧ Below B w w' := by
  obtain ⟨i0, hi, hz0, hz1, hz2⟩ := info_parts infoB
  have HC := show Hid _ from copyCheck_used b w h.cell0
  obtain ⟨hB, v, hbk, hown, hne⟩ := h
  rw [Lib.byteCells_length] at hown
  have hlt : b < w.heap.size := lt_of_heap hbk
  have hY : (w.alloc (.cells #[.int .u8 ((c.toNat : Nat) : Int)] 5)).ownsRow B 5 1 v a.length (Lib.byteCells a) := owns_kept hown ((Kept.refl (fun _ => False) w).alloc _) (fun _ _ e => e)
  obtain ⟨v', w2, hrun, hown', hgrow, _, _⟩ := run_append_own_at (P := Tryd.prog) (w.alloc (.cells #[.int .u8 ((c.toNat : Nat) : Int)] 5)) B 55 55 5 i0 _ 1 1 Tryd.underlying55 hi hz0 hz1 hz2 rfl (by omega) _ _ _ hY ⟨w.heap.size, 0, none⟩ 1 1 [.int .u8 ((c.toNat : Nat) : Int)] rfl
    (fun q u hq => by
      rw [Addr.add_lit, Nat.zero_add, World.cell?_alloc_new, ← Array.getElem?_toList]
      exact hq) (fun u hu => by simp at hu; rcases hu with rfl; rfl) (by unfold maxLen; omega) (by omega) (by simp; omega)
  have hown2 : w2.ownsRow B 5 1 v' (a.length + 1) (Lib.byteCells (a ++ [c])) := by rw [Lib.byteCells_append]; exact hown'
  have c1 : w.cell? ⟨b, 1, none⟩ = some v := by rw [Lib.cell_of_heap hbk]; rfl
  have hb2 : w2.heap[b]? = some (.cells #[.pointer (some ⟨b, 0, none⟩), v] 57 (0, 0)) := by
    rw [hgrow.block b (by simp; omega) (fun e => hne e.symm), Lib.alloc_old w _ b hlt]
    exact hbk
  have d1 : w2.cell? ⟨b, 1, none⟩ = some v := by rw [Lib.cell_of_heap hb2]; rfl
  have f1 : w2.frozen? ⟨b, 1, none⟩ = false := Lib.frozen_of_heap hb2 1
  obtain ⟨ao2, cp2, rfl⟩ := ownsRow_shape hown2
  have HEnd : Hid (BuB B b (a ++ [c]) (w2.setCell ⟨b, 1, none⟩ (.slice ao2 (a.length + 1) cp2)) ∧ Below B w (w2.setCell ⟨b, 1, none⟩ (.slice ao2 (a.length + 1) cp2))) := by
    refine ⟨Lib.BuilderAt.put (T := 57) (e := 5) hB hb2 (bs' := Lib.byteCells (a ++ [c])) (by rw [Lib.byteCells_length, List.length_append]; exact hown2) (by decide), ?_⟩
    exact (((Below.refl B w).alloc (by omega) _).grown hgrow (by simp; omega) (fun k hk => (hown.lt k hk).1)).setCell (p := ⟨b, 1, none⟩) hB _
  obtain ⟨ao, cp, rfl⟩ := ownsRow_shape hown
  clear hown hown' hown2 hgrow hb2 hbk hne hY
  go_enter Tryd.func33, Tryd.ntmps33
  go_wp2_with fail
  refine Calls.mono HC.out ?_
  rintro e w1 ⟨rfl, hW⟩
  have hW' := hW.symm
  subst hW'
  clear HC hW
  go_wp2_with (at_builtin; refine Lib.wpList_append_run _ rfl _ _ _ _ rfl _ _ rfl rfl _ _ hrun ?_)
  go_ret
  exact ⟨rfl, HEnd.out⟩
theorem chW_one {l : List UInt8} (hn : l ≠ []) (h : bN l 0 < 128) : chW l ≠ 0 := by
  have hp := List.length_pos_iff.2 hn
  have : chW l = 1 := (chW_iff (by decide)).2 ⟨by unfold szN; rw [if_pos h], hp, by simp [OkN]⟩
  omega
theorem decGo_at (l : List UInt8) (i : Nat) (hi : i < l.length) : Lib.decodeGo ⟨(l.drop i).toArray⟩ = Utf8.decode ⟨l.toArray⟩ i := by
  unfold Lib.decodeGo
  rw [if_neg (by rw [len_l, List.length_drop]; omega), dec_at, dec_at, List.drop_zero]
theorem slice_both (r : List UInt8) (i j : Nat) (h : i ≤ j) (hj : j ≤ r.length) (w : World) : (Instr.slice 9 (sV r) (some (.int .i64 (i : Int))) (some (.int .i64 (j : Int))) none).run Tryd.prog w = .ok (sV ((r.take j).drop i)) w := by
  rw [run_slice_string_if (h := Tryd.underlying9), if_pos ⟨by omega, by rw [len_l]; omega⟩, if_pos ⟨by omega, by omega⟩, Int.toNat_natCast, Int.toNat_natCast, ext_l]
end Go.Proofs.YtkkaaoflolgaiaaDoor
