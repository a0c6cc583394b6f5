/-
  add: the walk.
-/
import Derived.Test.YtdponkpgokncdaaGuc
import Derived.Test.YtdponkpgokncdaaAppR
import Derived.Test.YtdponkpgokncdaaBldR
import Derived.Deep.RegionLaw
namespace Go.Proofs.Ytdponkpgokncdaa
open Go.RowKit Go.Lib Go.Maps

theorem rowS_eq {f : Nat → Nat → Int} {n : Nat} {c : Array Value} (hs : c.size = 256) (hc : ∀ j, j < 256 → c[j]? = some (.int .i16 (-1))) (hf : ∀ j, j < 256 → f n j = -1) : c.toList = rowS f n := by
  apply List.ext_getElem
  · rw [rowS_len]; simpa using hs
  · intro i h1 h2
    have hi : i < 256 := by rw [rowS_len] at h2; exact h2
    have e1 := hc i hi
    rw [← Array.getElem?_toList, List.getElem?_eq_getElem h1] at e1
    simp only [Option.some.injEq] at e1
    rw [e1]
    simp only [rowS, List.getElem_map, List.getElem_range, hf i hi]
set_option maxHeartbeats 400000 in
set_option maxRecDepth 100000 in
theorem add_any {B : Nat} {w : World} {b : Nat} {av sv : Value} {A : List Bool} {n : Nat} {f : Nat → Nat → Int} (h : MaAt B w b av sv A n f) (hB : B ≤ w.heap.size) (hn : n < 64) (hf : ∀ j, j < 256 → f n j = -1) (a : Bool) :
    Calls Try.prog 42 #[.pointer (some ⟨b, 0, none⟩), .bool a] w fun e w' => e = .returned (zV n) ∧ ∃ av' sv', MaAt B w' b av' sv' (A ++ [a]) (n + 1) f ∧ Kept (fun q => B ≤ q) w w' := by
  have HM : Hid (∀ W, Fresh w W → MaAt B W b av sv A n f) := fun W hk => h.fresh hk
  have HB : Hid (B ≤ w.heap.size) := hB
  have HF : Hid (∀ j, j < 256 → f n j = -1) := hf
  have hbw := lt_of_heap h.hb
  clear h hB hf
  have hz := arrZero
  go_enter Try.func42, Try.ntmps42
  go_wp2
  go_loopw [7] (fun iv wr => ∃ (k : Nat) (c : Array Value), k ≤ 256 ∧ iv = zV k ∧ wr = w.alloc (.cells c 101) ∧ Hid (c.size = 256) ∧ Hid (∀ j, j < k → c[j]? = some (.int .i16 (-1)))) (fun iv _ => 256 - (RowKit.intOf iv).toNat)
  case atStart => exact ⟨0, _, Nat.zero_le _, rfl, rfl, Array.size_replicate, fun j hj => absurd hj (Nat.not_lt_zero _)⟩
  case round =>
    obtain ⟨k, c, hk, rfl, rfl, HS, HC⟩ := hrel
    by_cases hlt : k < 256
    · have hlt' : (k : Int) < 256 := by omega
      have f1 : (w.alloc (.cells c 101)).frozen? ⟨w.heap.size, k, none⟩ = false := Lib.frozen_of_heap (heap_alloc_new w _) k
      have c1 : (w.alloc (.cells c 101)).cell? ⟨w.heap.size, k, none⟩ = some (c[k]'(by rw [HS.out]; exact hlt)) := by
        rw [World.cell?_alloc_new]; exact Array.getElem?_eq_getElem _
      have e1 := fun v => World.setCell_alloc_new (w := w) c 101 k v
      go_wp2
      go_roundw
      case rel =>
        refine ⟨k + 1, c.setIfInBounds k (.int .i16 (-1)), hlt, by go_num, rfl, ?_, fun j hj => ?_⟩
        · show _ = _
          rw [Array.size_setIfInBounds]; exact HS.out
        · by_cases e : j = k
          · subst e
            rw [Array.getElem?_setIfInBounds_self_of_lt (by rw [HS.out]; exact hlt)]
          · rw [Array.getElem?_setIfInBounds_ne (by omega)]
            exact HC.out j (by omega)
      case measure => simp [RowKit.intOf]; omega
    · obtain rfl : k = 256 := by omega
      clear hlt hk
      have hk1 : Fresh w (w.alloc (.cells c 101)) := (Kept.refl _ w).alloc _
      have hcb := heap_alloc_new w (.cells c 101)
      have m1 := HM.out _ hk1
      have hl := rowS_eq HS.out HC.out HF.out
      have hs0 : (w.alloc (.cells c 101)).heap.size = w.heap.size + 1 := by rw [World.size_alloc]
      generalize hW1 : w.alloc (.cells c 101) = W1 at *
      clear hW1
      obtain ⟨v1, X1, r1, o1, k1⟩ := pushB W1 B av A a (by rw [m1.ln]; exact m1.ac) (by rw [m1.ln]; omega) (by have := HB.out; omega)
      have nb1 : av.ownBlock ≠ some b := ownBlock_ne3 m1.ac m1.hb (by decide)
      have nc1 : av.ownBlock ≠ some w.heap.size := ownBlock_ne3 m1.ac hcb (by decide)
      have hb1 := k1.at m1.hb nb1
      have hc1 := k1.at hcb nc1
      have st1 := owns_kept m1.st k1 (fun q e1 e2 => own_apart m1.ac m1.st (by decide) e2 e1)
      have k2 : Kept (fun q => q = b) X1 (X1.setCell ⟨b, 0, none⟩ v1) := (Kept.refl (fun q => q = b) X1).setCell (p := ⟨b, 0, none⟩) (fun _ => rfl) _
      have hbl := lt_of_heap m1.hb
      have hne : w.heap.size ≠ b := by omega
      have hb2 : (X1.setCell ⟨b, 0, none⟩ v1).heap[b]? = some (.cells #[v1, sv] 90 (0, 0)) := Lib.heap_setCell_same hb1 _ (i := 0)
      have hc2 := k2.at hc1 hne
      have o2 := owns_kept o1 k2 (fun q e1 e2 => by subst e2; exact ownBlock_ne3 o1 hb1 (by decide) e1)
      have st2 := owns_kept st1 k2 (fun q e1 e2 => by subst e2; exact ownBlock_ne3 st1 hb1 (by decide) e1)
      obtain ⟨⟨ao, ac, rfl⟩, so, sc, rfl, ⟨c0, c1⟩, _⟩ := m1.cells
      have f0 : X1.frozen? ⟨b, 0, none⟩ = false := Lib.frozen_of_heap hb1 0
      have e0 : X1.cell? ⟨b, 0, none⟩ = some (.slice ao n ac) := by rw [Lib.cell_of_heap hb1]; rfl
      obtain ⟨ao1, ac1, rfl⟩ := ownsRow_shape o1
      have HK := show Hid _ from k1
      have HO := show Hid _ from o1
      have HST := show Hid _ from st2
      have HO2 := show Hid _ from o2
      have HM1 := show Hid _ from m1
      have HK1 := show Hid _ from hk1
      clear k1 o1 hs0 st2 o2 st1 m1 hk1
      go_wp2_with (at_builtin; refine Lib.wpList_append_run _ rfl _ _ _ _ rfl _ _ rfl rfl _ _ r1 ?_)
      have k1 := HK.out
      have o1 := HO.out
      have st2 := HST.out
      have o2 := HO2.out
      have m1 := HM1.out
      generalize hX2 : X1.setCell ⟨b, 0, none⟩ (.slice ao1 (A.length + 1) ac1) = X2 at *
      have hX0 : X1.heap.size ≤ X2.heap.size := k2.size
      obtain ⟨v3, X3, r3, o3, k3⟩ := pushS X2.drew B (.slice so n sc) n f (owns_kept st2 ((Kept.refl (fun _ => False) X2).drew) (fun _ _ e => e)) (by omega) (by have := HB.out; have h5 := k1.size; have h6 : w.heap.size < W1.heap.size := lt_of_heap hcb; show B ≤ X2.heap.size; omega) c hl
      have hld : (loadVar 101 ⟨w.heap.size, 0, none⟩).run Try.prog X2.drew = .ok (.agg c) X2.drew := run_loadVar_row _ _ _ _ _ _ _ hc2 Try.underlying101 rfl (by rw [HS.out]; exact arrSize)
      have hlc : (loadCellsFrom ⟨w.heap.size, 0, none⟩ 0 256 #[]).run Try.prog X2.drew = .ok c X2.drew := by
        have h9 := run_loadCells_list (P := Try.prog) X2.drew ⟨w.heap.size, 0, none⟩ c.toList (fun j v hv => by
          rw [Addr.add_lit, Nat.zero_add, Lib.cell_of_heap (w := X2.drew) hc2 j, ← Array.getElem?_toList]
          exact hv)
        simpa [loadCells, HS.out] using h9
      have x1 : X2.cell? ⟨b, 1, none⟩ = some (.slice so n sc) := by rw [Lib.cell_of_heap hb2]; rfl
      have hb3 : X3.heap[b]? = some (.cells #[.slice ao1 (A.length + 1) ac1, .slice so n sc] 90 (0, 0)) := k3.at hb2 (ownBlock_ne3 st2 hb2 (by decide))
      have x1a : (X2.alloc (.cells c 101)).cell? ⟨b, 1, none⟩ = some (.slice so n sc) := (((Kept.refl (fun _ => False) X2).alloc _).cell (p := ⟨b, 1, none⟩) (lt_of_heap hb2) (fun e => e)).trans x1
      have x3 : X3.cell? ⟨b, 1, none⟩ = some (.slice so n sc) := by rw [Lib.cell_of_heap hb3]; rfl
      have x3f : X3.frozen? ⟨b, 1, none⟩ = false := Lib.frozen_of_heap hb3 1
      have HR : Hid (MaAt B (X3.setCell ⟨b, 1, none⟩ v3) b (.slice ao1 (A.length + 1) ac1) v3 (A ++ [a]) (n + 1) f ∧ Kept (fun q => B ≤ q) w (X3.setCell ⟨b, 1, none⟩ v3)) := by
        have k4 : Kept (fun q => q = b) X3 (X3.setCell ⟨b, 1, none⟩ v3) := (Kept.refl (fun q => q = b) X3).setCell (p := ⟨b, 1, none⟩) (fun _ => rfl) _
        have kd : Fresh X2 X2.drew := (Kept.refl _ X2).drew
        have o2d := owns_kept o2 kd (fun _ _ e => e)
        have st2d := owns_kept st2 kd (fun _ _ e => e)
        have o2' := owns_kept o2d k3 (fun q e1 e2 => own_apart o2d st2d (by decide) e1 e2)
        have o2'' := owns_kept o2' k4 (fun q e1 e2 => by subst e2; exact ownBlock_ne3 o2' hb3 (by decide) e1)
        have o3' := owns_kept o3 k4 (fun q e1 e2 => by subst e2; exact ownBlock_ne3 o3 hb3 (by decide) e1)
        refine ⟨⟨Lib.heap_setCell_same hb3 _ (i := 1), ?_, o3', m1.le, fun s c => ?_, by omega⟩, ?_⟩
        · have e9 := m1.ln
          rw [e9] at o2''
          rw [e9]
          exact o2''
        · rcases m1.rg s c with e | ⟨e, e'⟩
          · exact .inl e
          · exact .inr ⟨e, by push_cast; omega⟩
        · have q1 : Kept (fun q => B ≤ q) w W1 := HK1.out.mono (fun _ _ (e : False) => e.elim)
          have q2 : Kept (fun q => B ≤ q) w X1 := q1.trans k1 (fun i _ e => own_ge3 m1.ac e)
          have q3 : Kept (fun q => B ≤ q) w X2 := q2.trans k2 (fun i _ e => by have e' : i = b := e; have := m1.le; omega)
          have q4 : Kept (fun q => B ≤ q) w X3 := q3.drew.trans k3 (fun i _ e => own_ge3 st2 e)
          exact q4.trans k4 (fun i _ e => by have e' : i = b := e; have := m1.le; omega)
      obtain ⟨so3, sc3, rfl⟩ := ownsRow_shape o3
      have HL : Hid (A.length = n) := m1.ln
      clear hcb hb3 k3 o3 hb2 o2 st2 k2 o1 k1 hb1 hc1 nb1 nc1 m1 hX2 hX0
      clear HK HO HST HO2 HM1 HK1
      generalize hAl : A.length + 1 = al at *
      refine wp_region_any (by kernel_rfl) ?_
      change wpAny _ _ _ _ _ _ _ (World.drew _)
      refine wpAny_take (i := 0) (v := ?_) rfl (by kernel_rfl) (by kernel_rfl) (by kernel_rfl) (fun _ _ _ h => h) (Or.inl ⟨by rfl, ?_⟩) ?_
      rotate_left
      · intro w; go_simp; with_reducible rfl
      rotate_left
      refine wpAny_take (i := 1) (v := ?_) rfl (by kernel_rfl) (by kernel_rfl) (by kernel_rfl) (fun _ _ _ h => h) (Or.inl ⟨by rfl, ?_⟩) ?_
      rotate_left
      · intro w; go_simp; with_reducible rfl
      rotate_left
      refine wpAny_take (i := 2) (v := ?_) rfl (by kernel_rfl) (by kernel_rfl) (by kernel_rfl) (fun _ _ _ h => h) (Or.inl ⟨by rfl, ?_⟩) ?_
      rotate_left
      · intro w; go_simp; with_reducible rfl
      rotate_left
      refine wpAny_take (i := 3) (v := ?_) rfl (by kernel_rfl) (by kernel_rfl) (by kernel_rfl) (fun _ _ _ h => h) (Or.inl ⟨by rfl, ?_⟩) ?_
      rotate_left
      · intro w; go_simp; with_reducible rfl
      rotate_left
      refine wpAny_ready (rs := [4, 5]) (by kernel_rfl) (by simp) ?_
      refine AllReady.cons rfl (fun K hK => ?_) ?_
      · go_simp
        refine hK _ _ ?_
        clear hK K
        refine wpAny_ready (rs := [5]) (by kernel_rfl) (by simp) ?_
        refine AllReady.cons rfl (fun K hK => ?_) ?_
        · rw [if_pos (by rfl)]
          refine wp_load_row _ _ rfl _ rfl _ _ _ _ hc2 Try.underlying101 rfl (by rw [HS.out]; exact arrSize) ?_
          refine hK _ _ ?_
          clear hK K
          refine wpAny_ready (rs := [6]) (by kernel_rfl) (by simp) ?_
          refine AllReady.cons rfl (fun K hK => ?_) ?_
          · rw [if_pos (by rfl)]
            refine wp_buildRow (c := c) rfl rfl HS.out ?_
            refine hK _ _ ?_
            clear hK K
            refine wpAny_ready (rs := [7]) (by kernel_rfl) (by simp) ?_
            refine AllReady.cons rfl (fun K hK => ?_) ?_
            · refine step_append_run rfl _ _ _ _ rfl _ _ (by rfl) (by rfl) _ _ r3 ?_
              refine hK _ _ ?_
              clear hK K
              refine wpAny_take (i := 8) (v := ?_) rfl (by kernel_rfl) (by kernel_rfl) (by kernel_rfl) (fun _ _ _ h => h) (Or.inl ⟨by rfl, ?_⟩) ?_
              rotate_left
              · intro w; go_simp; with_reducible rfl
              rotate_left
              refine wpAny_take (i := 9) (v := ?_) rfl (by kernel_rfl) (by kernel_rfl) (by kernel_rfl) (fun _ _ _ h => h) (Or.inl ⟨by rfl, ?_⟩) ?_
              rotate_left
              · intro w; go_simp; with_reducible rfl
              rotate_left
              refine wpAny_ready (rs := [10]) (by kernel_rfl) (by simp) ?_
              refine AllReady.cons rfl (fun K hK => ?_) ?_
              · go_simp
                refine hK _ _ ?_
                clear hK K
                refine wpAny_done (by kernel_rfl) ?_ _
                go_wp2
                go_ret
                exact ⟨rfl, _, _, HR.out.1, HR.out.2⟩
              exact AllReady.nil
            exact AllReady.nil
          exact AllReady.nil
        exact AllReady.nil
      refine AllReady.cons rfl (fun K hK => ?_) ?_
      · rw [if_pos (by rfl)]
        refine wp_load_row _ _ rfl _ rfl _ _ _ _ hc2 Try.underlying101 rfl (by rw [HS.out]; exact arrSize) ?_
        refine hK _ _ ?_
        clear hK K
        refine wpAny_ready (rs := [4, 6]) (by kernel_rfl) (by simp) ?_
        refine AllReady.cons rfl (fun K hK => ?_) ?_
        · go_simp
          refine hK _ _ ?_
          clear hK K
          refine wpAny_ready (rs := [6]) (by kernel_rfl) (by simp) ?_
          refine AllReady.cons rfl (fun K hK => ?_) ?_
          · rw [if_pos (by rfl)]
            refine wp_buildRow (c := c) rfl rfl HS.out ?_
            refine hK _ _ ?_
            clear hK K
            refine wpAny_ready (rs := [7]) (by kernel_rfl) (by simp) ?_
            refine AllReady.cons rfl (fun K hK => ?_) ?_
            · refine step_append_run rfl _ _ _ _ rfl _ _ (by rfl) (by rfl) _ _ r3 ?_
              refine hK _ _ ?_
              clear hK K
              refine wpAny_take (i := 8) (v := ?_) rfl (by kernel_rfl) (by kernel_rfl) (by kernel_rfl) (fun _ _ _ h => h) (Or.inl ⟨by rfl, ?_⟩) ?_
              rotate_left
              · intro w; go_simp; with_reducible rfl
              rotate_left
              refine wpAny_take (i := 9) (v := ?_) rfl (by kernel_rfl) (by kernel_rfl) (by kernel_rfl) (fun _ _ _ h => h) (Or.inl ⟨by rfl, ?_⟩) ?_
              rotate_left
              · intro w; go_simp; with_reducible rfl
              rotate_left
              refine wpAny_ready (rs := [10]) (by kernel_rfl) (by simp) ?_
              refine AllReady.cons rfl (fun K hK => ?_) ?_
              · go_simp
                refine hK _ _ ?_
                clear hK K
                refine wpAny_done (by kernel_rfl) ?_ _
                go_wp2
                go_ret
                exact ⟨rfl, _, _, HR.out.1, HR.out.2⟩
              exact AllReady.nil
            exact AllReady.nil
          exact AllReady.nil
        refine AllReady.cons rfl (fun K hK => ?_) ?_
        · rw [if_pos (by rfl)]
          refine wp_buildRow (c := c) rfl rfl HS.out ?_
          refine hK _ _ ?_
          clear hK K
          refine wpAny_ready (rs := [4]) (by kernel_rfl) (by simp) ?_
          refine AllReady.cons rfl (fun K hK => ?_) ?_
          · go_simp
            refine hK _ _ ?_
            clear hK K
            refine wpAny_ready (rs := [7]) (by kernel_rfl) (by simp) ?_
            refine AllReady.cons rfl (fun K hK => ?_) ?_
            · refine step_append_run rfl _ _ _ _ rfl _ _ (by rfl) (by rfl) _ _ r3 ?_
              refine hK _ _ ?_
              clear hK K
              refine wpAny_take (i := 8) (v := ?_) rfl (by kernel_rfl) (by kernel_rfl) (by kernel_rfl) (fun _ _ _ h => h) (Or.inl ⟨by rfl, ?_⟩) ?_
              rotate_left
              · intro w; go_simp; with_reducible rfl
              rotate_left
              refine wpAny_take (i := 9) (v := ?_) rfl (by kernel_rfl) (by kernel_rfl) (by kernel_rfl) (fun _ _ _ h => h) (Or.inl ⟨by rfl, ?_⟩) ?_
              rotate_left
              · intro w; go_simp; with_reducible rfl
              rotate_left
              refine wpAny_ready (rs := [10]) (by kernel_rfl) (by simp) ?_
              refine AllReady.cons rfl (fun K hK => ?_) ?_
              · go_simp
                refine hK _ _ ?_
                clear hK K
                refine wpAny_done (by kernel_rfl) ?_ _
                go_wp2
                go_ret
                exact ⟨rfl, _, _, HR.out.1, HR.out.2⟩
              exact AllReady.nil
            exact AllReady.nil
          exact AllReady.nil
        exact AllReady.nil
      exact AllReady.nil
end Go.Proofs.Ytdponkpgokncdaa
