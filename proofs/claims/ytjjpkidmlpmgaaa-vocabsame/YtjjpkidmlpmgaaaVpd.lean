/-
  The document's Same.
-/
import Derived.Test.YtjjpkidmlpmgaaaVow
namespace Go.Proofs.Ytjjpkidmlpmgaaa
open Go.RowKit Go.Lib Go.Maps

theorem ext_T {T T' : List (List UInt8)} (hl : T.length = T'.length) (h : ∀ i, i < T.length → gT T i = gT T' i) : T = T' := by
  apply List.ext_getElem hl
  intro i h1 h2
  have := h i h1
  rw [gT, gT, List.getD_eq_getElem?_getD, List.getD_eq_getElem?_getD, List.getElem?_eq_getElem h1, List.getElem?_eq_getElem h2] at this
  exact this
theorem ext_M {M M' : List Mg} (hl : M.length = M'.length) (h : ∀ i, i < M.length → gM M i = gM M' i) : M = M' := by
  apply List.ext_getElem hl
  intro i h1 h2
  have := h i h1
  rw [gM, gM, List.getD_eq_getElem?_getD, List.getD_eq_getElem?_getD, List.getElem?_eq_getElem h1, List.getElem?_eq_getElem h2] at this
  exact this
set_option maxHeartbeats 2000000 in
set_option maxRecDepth 100000 in
/-- The document's Same of two that are the same. -/
theorem refSame_same {p q : Nat → Prop} (w : World) (tv mv tv' mv' : Value) (T : List (List UInt8)) (M : List Mg) (hT : TxR p w tv T) (hM : MgR p w mv M) (hT' : TxR q w tv' T) (hM' : MgR q w mv' M) (hM24 : M.length * 24 ≤ 140737488351232) :
    Calls Try.prog 13 #[.agg #[tv, mv], .agg #[tv', mv']] w fun e w' => e = .returned (.bool true) ∧ Fresh w w' := by
  have hF1 : Fresh w ((w.alloc (.cells #[tv, mv] 28)).alloc (.cells #[tv', mv'] 28)) := ((Kept.refl _ w).alloc _).alloc _
  have s1 : (w.alloc (.cells #[tv, mv] 28)).heap.size = w.heap.size + 1 := by rw [World.size_alloc]
  have h0 : ((w.alloc (.cells #[tv, mv] 28)).alloc (.cells #[tv', mv'] 28)).heap[w.heap.size]? = some (.cells #[tv, mv] 28 (0, 0)) := by rw [Below.heap_alloc _ _ _ (by omega)]; exact heap_alloc_new _ _
  have h1 : ((w.alloc (.cells #[tv, mv] 28)).alloc (.cells #[tv', mv'] 28)).heap[w.heap.size + 1]? = some (.cells #[tv', mv'] 28 (0, 0)) := by rw [← s1]; exact heap_alloc_new _ _
  have k0 := Lib.cell_of_heap h0 0
  have k1 := Lib.cell_of_heap h0 1
  have k2 := Lib.cell_of_heap h1 0
  have k3 := Lib.cell_of_heap h1 1
  have HT := show Hid _ from hT.fresh hF1
  have HT' := show Hid _ from hT'.fresh hF1
  have HM := show Hid _ from hM.fresh hF1
  have HM' := show Hid _ from hM'.fresh hF1
  have h16 := hT.len16
  obtain ⟨ta, tc, rfl⟩ := hT.shape
  obtain ⟨ma, mc, rfl⟩ := hM.shape
  obtain ⟨ta', tc', rfl⟩ := hT'.shape
  obtain ⟨ma', mc', rfl⟩ := hM'.shape
  have HF1 : Hid _ := hF1
  have hmz : M.length ≤ mc := by
    obtain ⟨ao, cap, e, _, e2, _⟩ := hM
    injection e with _ _ e3
    omega
  clear hT hT' hM hM' hF1 h0 h1 s1
  generalize hW : (w.alloc (.cells #[.slice ta T.length tc, .slice ma M.length mc] 28)).alloc (.cells #[.slice ta' T.length tc', .slice ma' M.length mc'] 28) = W at *
  have x0 : W.cell? ⟨w.heap.size, 0, none⟩ = some (.slice ta T.length tc) := k0
  have x1 : W.cell? ⟨w.heap.size, 1, none⟩ = some (.slice ma M.length mc) := k1
  have x2 : W.cell? ⟨w.heap.size + 1, 0, none⟩ = some (.slice ta' T.length tc') := k2
  have x3 : W.cell? ⟨w.heap.size + 1, 1, none⟩ = some (.slice ma' M.length mc') := k3
  clear k0 k1 k2 k3
  have H1 : Hid (0 < T.length → ∃ b o, ta = some ⟨b, o, none⟩ ∧ ∀ i, i < T.length → W.cell? ⟨b, o + i, none⟩ = some (.string (ByteArray.mk (gT T i).toArray))) := fun h => by
    obtain ⟨b, o, e, _, _, hc⟩ := (TxR.cells HT.out).2.2 h
    exact ⟨b, o, e, hc⟩
  have H2 : Hid (0 < T.length → ∃ b o, ta' = some ⟨b, o, none⟩ ∧ ∀ i, i < T.length → W.cell? ⟨b, o + i, none⟩ = some (.string (ByteArray.mk (gT T i).toArray))) := fun h => by
    obtain ⟨b, o, e, _, _, hc⟩ := (TxR.cells HT'.out).2.2 h
    exact ⟨b, o, e, hc⟩
  have H3 : Hid (0 < M.length → ∃ b o, ma = some ⟨b, o, none⟩ ∧ ∀ i, i < M.length → W.cell? ⟨b, o + i * 3, none⟩ = some (zV (gM M i).l) ∧ W.cell? ⟨b, o + i * 3 + 1, none⟩ = some (zV (gM M i).r) ∧ W.cell? ⟨b, o + i * 3 + 2, none⟩ = some (zV (gM M i).o)) := fun h => by
    obtain ⟨ao, cap, e, _, _, _, hc⟩ := HM.out
    injection e with e1 _ _
    subst e1
    obtain ⟨b, o, e, _, _, hc⟩ := hc h
    exact ⟨b, o, e, hc⟩
  have H4 : Hid (0 < M.length → ∃ b o, ma' = some ⟨b, o, none⟩ ∧ ∀ i, i < M.length → W.cell? ⟨b, o + i * 3, none⟩ = some (zV (gM M i).l) ∧ W.cell? ⟨b, o + i * 3 + 1, none⟩ = some (zV (gM M i).r) ∧ W.cell? ⟨b, o + i * 3 + 2, none⟩ = some (zV (gM M i).o)) := fun h => by
    obtain ⟨ao, cap, e, _, _, _, hc⟩ := HM'.out
    injection e with e1 _ _
    subst e1
    obtain ⟨b, o, e, _, _, hc⟩ := hc h
    exact ⟨b, o, e, hc⟩
  clear HT HT' HM HM'
  generalize hTl : T.length = tl at *
  generalize hMl : M.length = ml at *
  go_enter Try.func13, Try.ntmps13
  go_wp2
  clear hW
  go_loopw [5] (fun iv wr => ∃ k d : Nat, k ≤ tl ∧ iv = zV k ∧ wr = W.drewN d) (fun iv _ => tl - (RowKit.intOf iv).toNat)
  case atStart => exact ⟨0, 0, Nat.zero_le _, rfl, rfl⟩
  case round =>
    obtain ⟨k, d, hk, rfl, rfl⟩ := hrel
    by_cases hlt : k < tl
    · have hlt' : (k : Int) < (tl : Int) := by omega
      obtain ⟨b1, o1, rfl, c1⟩ := H1.out (by omega)
      obtain ⟨b2, o2, rfl, c2⟩ := H2.out (by omega)
      have t1 := c1 k hlt
      have t2 := c2 k hlt
      clear c1 c2
      generalize ByteArray.mk (gT T k).toArray = ss at *
      go_wp2_with fail
      go_quiet (fail)
      go_wp2
      go_roundw
      case rel => exact ⟨k + 1, _, hlt, by go_num, rfl⟩
      case measure => simp [RowKit.intOf]; omega
    · obtain rfl : k = tl := by omega
      go_wp2
      go_loopw [6] (fun iv wq => ∃ i e : Nat, i ≤ ml ∧ iv = zV i ∧ wq = W.drewN e) (fun iv _ => ml - (RowKit.intOf iv).toNat)
      case atStart => exact ⟨0, _, Nat.zero_le _, rfl, rfl⟩
      case round =>
        obtain ⟨i, e, hi, rfl, rfl⟩ := hrel
        by_cases hlt2 : i < ml
        · have hlt' : (i : Int) < (ml : Int) := by omega
          obtain ⟨b1, o1, rfl, c1⟩ := H3.out (by omega)
          obtain ⟨b2, o2, rfl, c2⟩ := H4.out (by omega)
          obtain ⟨t1, t2, t3⟩ := c1 i hlt2
          obtain ⟨s1, s2, s3⟩ := c2 i hlt2
          clear c1 c2
          generalize (gM M i).l = y1 at *
          generalize (gM M i).r = y2 at *
          generalize (gM M i).o = y3 at *
          go_wp2_with fail
          go_quiet (fail)
          go_wp2
          go_roundw
          case rel => exact ⟨i + 1, _, hlt2, by go_num, rfl⟩
          case measure => simp [RowKit.intOf]; omega
        · obtain rfl : i = ml := by omega
          go_wp2
          go_ret
          exact ⟨rfl, HF1.out.drewN _⟩
end Go.Proofs.Ytjjpkidmlpmgaaa
