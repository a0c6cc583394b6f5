/-
  The document's Same, of any two.
-/
import Derived.Test.YtjjpkidmlpmgaaaVpf
namespace Go.Proofs.Ytjjpkidmlpmgaaa
open Go.RowKit Go.Lib Go.Maps

set_option maxHeartbeats 2000000 in
set_option maxRecDepth 100000 in
/-- The document's Same of any two. -/
theorem refSame_any {p q : Nat → Prop} (w : World) (tv mv tv' mv' : Value) (T T' : List (List UInt8)) (M M' : List Mg) (hT : TxR p w tv T) (hM : MgR p w mv M) (hT' : TxR q w tv' T') (hM' : MgR q w mv' M') (hM24 : M.length * 24 ≤ 140737488351232) :
    Calls Try.prog 13 #[.agg #[tv, mv], .agg #[tv', mv']] w fun e w' => e = .returned (.bool (smB T T' M M')) ∧ Fresh w w' := by
  have hF1 : Fresh w ((w.alloc (.cells #[tv, mv] 28)).alloc (.cells #[tv', mv'] 28)) := ((Kept.refl _ w).alloc _).alloc _
  have s1 : (w.alloc (.cells #[tv, mv] 28)).heap.size = w.heap.size + 1 := by rw [World.size_alloc]
  have h0 : ((w.alloc (.cells #[tv, mv] 28)).alloc (.cells #[tv', mv'] 28)).heap[w.heap.size]? = some (.cells #[tv, mv] 28 (0, 0)) := by rw [Below.heap_alloc _ _ _ (by omega)]; exact heap_alloc_new _ _
  have h1 : ((w.alloc (.cells #[tv, mv] 28)).alloc (.cells #[tv', mv'] 28)).heap[w.heap.size + 1]? = some (.cells #[tv', mv'] 28 (0, 0)) := by rw [← s1]; exact heap_alloc_new _ _
  have k0 := Lib.cell_of_heap h0 0
  have k1 := Lib.cell_of_heap h0 1
  have k2 := Lib.cell_of_heap h1 0
  have k3 := Lib.cell_of_heap h1 1
  have HT := show Hid _ from hT.fresh hF1
  have HT' := show Hid _ from hT'.fresh hF1
  have HM := show Hid _ from hM.fresh hF1
  have HM' := show Hid _ from hM'.fresh hF1
  have h16 := hT.len16
  obtain ⟨ta, tc, rfl⟩ := hT.shape
  obtain ⟨ma, mc, rfl⟩ := hM.shape
  obtain ⟨ta', tc', rfl⟩ := hT'.shape
  obtain ⟨ma', mc', rfl⟩ := hM'.shape
  have HF1 : Hid _ := hF1
  have hmz : M.length ≤ mc := by
    obtain ⟨ao, cap, e, _, e2, _⟩ := hM
    injection e with _ _ e3
    omega
  clear hT hT' hM hM' hF1 h0 h1 s1
  generalize hW : (w.alloc (.cells #[.slice ta T.length tc, .slice ma M.length mc] 28)).alloc (.cells #[.slice ta' T'.length tc', .slice ma' M'.length mc'] 28) = W at *
  have x0 : W.cell? ⟨w.heap.size, 0, none⟩ = some (.slice ta T.length tc) := k0
  have x1 : W.cell? ⟨w.heap.size, 1, none⟩ = some (.slice ma M.length mc) := k1
  have x2 : W.cell? ⟨w.heap.size + 1, 0, none⟩ = some (.slice ta' T'.length tc') := k2
  have x3 : W.cell? ⟨w.heap.size + 1, 1, none⟩ = some (.slice ma' M'.length mc') := k3
  clear k0 k1 k2 k3
  have H1 : Hid (0 < T.length → ∃ b o, ta = some ⟨b, o, none⟩ ∧ ∀ i, i < T.length → W.cell? ⟨b, o + i, none⟩ = some (.string (ByteArray.mk (gT T i).toArray))) := fun h => by
    obtain ⟨b, o, e, _, _, hc⟩ := (TxR.cells HT.out).2.2 h
    exact ⟨b, o, e, hc⟩
  have H2 : Hid (0 < T'.length → ∃ b o, ta' = some ⟨b, o, none⟩ ∧ ∀ i, i < T'.length → W.cell? ⟨b, o + i, none⟩ = some (.string (ByteArray.mk (gT T' i).toArray))) := fun h => by
    obtain ⟨b, o, e, _, _, hc⟩ := (TxR.cells HT'.out).2.2 h
    exact ⟨b, o, e, hc⟩
  have H3 : Hid (0 < M.length → ∃ b o, ma = some ⟨b, o, none⟩ ∧ ∀ i, i < M.length → W.cell? ⟨b, o + i * 3, none⟩ = some (zV (gM M i).l) ∧ W.cell? ⟨b, o + i * 3 + 1, none⟩ = some (zV (gM M i).r) ∧ W.cell? ⟨b, o + i * 3 + 2, none⟩ = some (zV (gM M i).o)) := fun h => by
    obtain ⟨ao, cap, e, _, _, _, hc⟩ := HM.out
    injection e with e1 _ _
    subst e1
    obtain ⟨b, o, e, _, _, hc⟩ := hc h
    exact ⟨b, o, e, hc⟩
  have H4 : Hid (0 < M'.length → ∃ b o, ma' = some ⟨b, o, none⟩ ∧ ∀ i, i < M'.length → W.cell? ⟨b, o + i * 3, none⟩ = some (zV (gM M' i).l) ∧ W.cell? ⟨b, o + i * 3 + 1, none⟩ = some (zV (gM M' i).r) ∧ W.cell? ⟨b, o + i * 3 + 2, none⟩ = some (zV (gM M' i).o)) := fun h => by
    obtain ⟨ao, cap, e, _, _, _, hc⟩ := HM'.out
    injection e with e1 _ _
    subst e1
    obtain ⟨b, o, e, _, _, hc⟩ := hc h
    exact ⟨b, o, e, hc⟩
  clear HT HT' HM HM'
  have HN1 : Hid (∀ i, ¬ gT T i = gT T' i → smB T T' M M' = false) := fun i h => by
    have : ¬ T = T' := fun e => h (by rw [e])
    simp [smB, this]
  have HN2 : Hid (∀ i, ¬ gM M i = gM M' i → smB T T' M M' = false) := fun i h => by
    have : ¬ M = M' := fun e => h (by rw [e])
    simp [smB, this]
  have HN3 : Hid (¬ T.length = T'.length → smB T T' M M' = false) := fun h => by
    have : ¬ T = T' := fun e => h (by rw [e])
    simp [smB, this]
  have HN4 : Hid (¬ M.length = M'.length → smB T T' M M' = false) := fun h => by
    have : ¬ M = M' := fun e => h (by rw [e])
    simp [smB, this]
  have HE : Hid (T.length = T'.length → M.length = M'.length → (∀ i, i < T.length → gT T i = gT T' i) → (∀ i, i < M.length → gM M i = gM M' i) → smB T T' M M' = true) := fun h1 h2 h3 h4 => by
    have e1 := ext_T h1 h3
    have e2 := ext_M h2 h4
    simp [smB, e1, e2]
  generalize smB T T' M M' = q3 at *
  generalize hTl : T.length = tl at *
  generalize hMl : M.length = ml at *
  generalize hTl' : T'.length = tl' at *
  generalize hMl' : M'.length = ml' at *
  clear hTl hMl hTl' hMl'
  by_cases hlT : tl = tl'
  · subst hlT
    by_cases hlM : ml = ml'
    · subst hlM
      have HE2 : Hid ((∀ i, i < tl → gT T i = gT T' i) → (∀ i, i < ml → gM M i = gM M' i) → q3 = true) := HE.out rfl rfl
      clear HE HN3 HN4
      go_enter Try.func13, Try.ntmps13
      go_wp2
      clear hW
      go_loopw [5] (fun iv wr => ∃ k d : Nat, k ≤ tl ∧ iv = zV k ∧ wr = W.drewN d ∧ Hid (∀ i, i < k → gT T i = gT T' i)) (fun iv _ => tl - (RowKit.intOf iv).toNat)
      case atStart => exact ⟨0, 0, Nat.zero_le _, rfl, rfl, fun i h => absurd h (by omega)⟩
      case round =>
        obtain ⟨k, d, hk, rfl, rfl, hall⟩ := hrel
        by_cases hlt : k < tl
        · have hlt' : (k : Int) < (tl : Int) := by omega
          obtain ⟨b1, o1, rfl, c1⟩ := H1.out (by omega)
          obtain ⟨b2, o2, rfl, c2⟩ := H2.out (by omega)
          have t1 := c1 k hlt
          have t2 := c2 k hlt
          clear c1 c2
          by_cases he : gT T k = gT T' k
          · have hall2 : Hid (∀ i, i < k + 1 → gT T i = gT T' i) := fun i hi => by
              rcases Nat.lt_or_ge i k with h | h
              · exact hall.out i h
              · obtain rfl : i = k := by omega
                exact he
            rw [← he] at t2
            generalize ByteArray.mk (gT T k).toArray = ss at *
            go_wp2_with fail
            go_quiet (fail)
            go_wp2
            go_roundw
            case rel => exact ⟨k + 1, _, hlt, by go_num, rfl, hall2⟩
            case measure => simp [RowKit.intOf]; omega
          · have hXY : Hid (q3 = false) := HN1.out k he
            have hn2 : ((ByteArray.mk (gT T k).toArray).toList == (ByteArray.mk (gT T' k).toArray).toList) = false := by
              rw [ByteArray.toList_eq, ByteArray.toList_eq]
              exact beq_false_of_ne he
            generalize ByteArray.mk (gT T k).toArray = ss at *
            generalize ByteArray.mk (gT T' k).toArray = st at *
            go_wp2_with fail
            go_quiet (fail)
            go_wp2
            go_ret
            exact ⟨by rw [hXY.out]; rfl, (HF1.out.drewN _).drewN _⟩
        · obtain rfl : k = tl := by omega
          go_wp2
          go_loopw [6] (fun iv wq => ∃ i e : Nat, i ≤ ml ∧ iv = zV i ∧ wq = W.drewN e ∧ Hid (∀ j, j < i → gM M j = gM M' j)) (fun iv _ => ml - (RowKit.intOf iv).toNat)
          case atStart => exact ⟨0, _, Nat.zero_le _, rfl, rfl, fun i h => absurd h (by omega)⟩
          case round =>
            obtain ⟨i, e, hi, rfl, rfl, halm⟩ := hrel
            by_cases hlt2 : i < ml
            · have hlt' : (i : Int) < (ml : Int) := by omega
              obtain ⟨b1, o1, rfl, c1⟩ := H3.out (by omega)
              obtain ⟨b2, o2, rfl, c2⟩ := H4.out (by omega)
              obtain ⟨t1, t2, t3⟩ := c1 i hlt2
              obtain ⟨s1, s2, s3⟩ := c2 i hlt2
              clear c1 c2
              by_cases he : gM M i = gM M' i
              · have halm2 : Hid (∀ j, j < i + 1 → gM M j = gM M' j) := fun j hj => by
                  rcases Nat.lt_or_ge j i with h | h
                  · exact halm.out j h
                  · obtain rfl : j = i := by omega
                    exact he
                rw [← he] at s1 s2 s3
                generalize (gM M i).l = y1 at *
                generalize (gM M i).r = y2 at *
                generalize (gM M i).o = y3 at *
                go_wp2_with fail
                go_quiet (fail)
                go_wp2
                go_roundw
                case rel => exact ⟨i + 1, _, hlt2, by go_num, rfl, halm2⟩
                case measure => simp [RowKit.intOf]; omega
              · have hXY : Hid (q3 = false) := HN2.out i he
                have hne : ¬ ((gM M i).l = (gM M' i).l ∧ (gM M i).r = (gM M' i).r ∧ (gM M i).o = (gM M' i).o) := fun ⟨e1, e2, e3⟩ => he (by cases h1 : gM M i; cases h2 : gM M' i; simp_all)
                generalize (gM M i).l = y1 at *
                generalize (gM M i).r = y2 at *
                generalize (gM M i).o = y3 at *
                generalize (gM M' i).l = z1 at *
                generalize (gM M' i).r = z2 at *
                generalize (gM M' i).o = z3 at *
                by_cases e1 : y1 = z1
                · subst e1
                  by_cases e2 : y2 = z2
                  · subst e2
                    have e3 : ¬ y3 = z3 := fun e => hne ⟨rfl, rfl, e⟩
                    have d3 : (y3 == z3) = false := by simpa using e3
                    clear hne
                    go_wp2_with fail
                    go_quiet (fail)
                    go_wp2
                    go_ret
                    exact ⟨by rw [hXY.out]; rfl, (HF1.out.drewN _).drewN _⟩
                  · have d2 : (y2 == z2) = false := by simpa using e2
                    clear hne
                    go_wp2_with fail
                    go_quiet (fail)
                    go_wp2
                    go_ret
                    exact ⟨by rw [hXY.out]; rfl, (HF1.out.drewN _).drewN _⟩
                · have d1 : (y1 == z1) = false := by simpa using e1
                  clear hne
                  go_wp2_with fail
                  go_quiet (fail)
                  go_wp2
                  go_ret
                  exact ⟨by rw [hXY.out]; rfl, (HF1.out.drewN _).drewN _⟩
            · obtain rfl : i = ml := by omega
              have hXY : Hid (q3 = true) := HE2.out hall.out halm.out
              go_wp2
              go_ret
              exact ⟨by rw [hXY.out]; rfl, HF1.out.drewN _⟩
    · have hXY : Hid (q3 = false) := HN4.out hlM
      have hnb : (ml == ml') = false := by simpa using hlM
      have hni : ¬ (ml : Int) = (ml' : Int) := by omega
      clear HE HN1 HN2 HN3 HN4 H1 H2 H3 H4
      go_enter Try.func13, Try.ntmps13
      go_wp2
      go_ret
      exact ⟨by rw [hXY.out]; rfl, HF1.out⟩
  · have hXY : Hid (q3 = false) := HN3.out hlT
    have hnb : (tl == tl') = false := by simpa using hlT
    have hni : ¬ (tl : Int) = (tl' : Int) := by omega
    clear HE HN1 HN2 HN3 HN4 H1 H2 H3 H4
    go_enter Try.func13, Try.ntmps13
    go_wp2
    go_ret
    exact ⟨by rw [hXY.out]; rfl, HF1.out⟩
end Go.Proofs.Ytjjpkidmlpmgaaa
