/-
  The document's Quantise.
-/
import Derived.Test.YtmkaafnoanidpaaDoorQr
namespace Go.Proofs.YtmkaafnoanidpaaDoor
open Go.RowKit Ieee

set_option maxHeartbeats 1000000 in
set_option maxRecDepth 100000 in
theorem refQuantise_own (p : Nat → Prop) (rv : Value) (bs : List Nat) (w : World) (hr : R32 p w rv bs) :
    Calls Tryd.prog 13 #[rv] w fun r w' => ∃ v e s zs, QnIs bs e s zs ∧ r = .returned (.tuple #[v, .int .i64 s, .int .i64 e]) ∧ Fresh w w' ∧
      w'.ownsRow w.heap.size 37 1 v zs.length (zs.map (Value.int .i8)) := by
  have hr0 := hr
  obtain ⟨ao, cap, rfl, hl, hc, hz, _⟩ := hr
  have HRR := show Hid _ from hr0
  clear hr0
  have own0 : ∀ W : World, Fresh w W → (W.alloc (.cells #[] 37)).ownsRow w.heap.size 37 1 (.slice (some ⟨W.heap.size, 0, none⟩) 0 0) 0 [] := fun W h => own_low (own8_empty W) h.size
  have HO := show Hid _ from own0
  clear own0
  go_enter Tryd.func13, Tryd.ntmps13
  go_wp2
  go_loopw [5, 6] (fun zr i wr => ∃ j : Nat, j ≤ bs.length ∧ i = .int .i64 j ∧ zr = .bool (az bs j) ∧ (∀ b ∈ bs.take j, bE b ≠ 255) ∧ Fresh w wr) (fun _ i _ => bs.length - (intOf i).toNat)
  case atStart => exact ⟨0, by omega, rfl, by simp [az], by simp, Kept.refl _ _⟩
  case round =>
    obtain ⟨j, hj, rfl, rfl, hfin, hfr⟩ := hrel
    by_cases hlt : j < bs.length
    · obtain ⟨b, off, rfl, _, hb, hcell⟩ := hc (fun e => by rw [e] at hlt; simp at hlt)
      have g1 : wr.cell? ⟨b, off + j, none⟩ = some (.int .u32 (bs.getD j 0 : Nat)) := (hfr.cell (p := ⟨b, off + j, none⟩) hb (fun e => e)).trans (hcell j hlt)
      have hmem : bs.getD j 0 ∈ bs := by rw [List.getD_eq_getElem?_getD, List.getElem?_eq_getElem hlt]; exact List.getElem_mem hlt
      have hz1 := hz _ hmem
      by_cases hE : bE (bs.getD j 0) = 255
      · have HQ : Hid (QnIs bs 30 0 []) := .inl ⟨gm_inf hmem hE, rfl, rfl, rfl⟩
        have HRaw : Hid (∃ (K : Int) (S : Bool), (K = 1 ∨ K = 2) ∧ ∀ X, Calls Tryd.prog 27 #[.int .u32 (bs.getD j 0 : Nat)] X fun e w' => e = .returned (.tuple #[.int .i64 K, .bool S, .int .i64 0, .int .i64 0]) ∧ X = w') := by
          by_cases hF : bF (bs.getD j 0) = 0
          · exact ⟨1, _, .inl rfl, fun X => (raw_any _ X hz1).mono fun _ _ h => ⟨by rw [← rawV_inf hE hF]; exact h.1, h.2.symm⟩⟩
          · exact ⟨2, _, .inr rfl, fun X => (raw_any _ X hz1).mono fun _ _ h => ⟨by rw [← rawV_none hE hF]; exact h.1, h.2.symm⟩⟩
        generalize bs.getD j 0 = z at *
        obtain ⟨K, S, hK, hraw⟩ := HRaw.out
        have HR := show Hid _ from hraw
        have hK0 : (K != 0) = true := by rcases hK with rfl | rfl <;> rfl
        clear hraw HRaw hcell hc hz hmem hE hfin hK
        go_wp2_with fail
        refine (HR.out _).mono ?_
        rintro r X ⟨rfl, rfl⟩
        go_wp2
        go_ret3
        exact ⟨_, _, _, _, HQ.out, rfl, hfr.alloc _, HO.out _ hfr⟩
      · have HRaw := show Hid _ from fun X => raw_fin (bs.getD j 0) hz1 hE X
        have HZ := show Hid _ from az_succ bs hlt
        have HF : Hid (∀ b ∈ bs.take (j + 1), bE b ≠ 255) := fun b hb => by
          rw [List.take_succ_eq_append_getElem hlt, List.mem_append] at hb
          rcases hb with hb | hb
          · exact hfin b hb
          · rw [List.getD_eq_getElem?_getD, List.getElem?_eq_getElem hlt] at hE
            simp only [List.mem_singleton] at hb
            rw [hb]
            exact hE
        generalize az bs j = A at *
        generalize mt (bs.getD j 0) = M at *
        generalize ex (bs.getD j 0) = E at *
        generalize bN (bs.getD j 0) = N at *
        generalize bs.getD j 0 = z at *
        clear hcell hc hz hmem hE hfin
        have H3 : (A = false ∧ az bs (j + 1) = false) ∨ (A = true ∧ M = 0 ∧ az bs (j + 1) = true) ∨ (A = true ∧ 0 < M ∧ az bs (j + 1) = false) := by
          rw [HZ.out]
          cases A
          · exact .inl ⟨rfl, rfl⟩
          · by_cases g : M = 0
            · exact .inr (.inl ⟨rfl, g, by simp [g]⟩)
            · exact .inr (.inr ⟨rfl, by omega, by simp [g]⟩)
        clear HZ
        rcases H3 with ⟨rfl, e⟩ | ⟨rfl, rfl, e⟩ | ⟨rfl, hM, e⟩
        all_goals
          replace e := show Hid _ from e
          go_wp2_with fail
          refine (HRaw.out _).mono ?_
          rintro r X ⟨rfl, rfl⟩
          go_wp2
          go_roundw
          case rel => exact ⟨j + 1, by omega, by go_num, by (first | (rw [e.out]; done) | (rw [e.out]; congr 1; simp; omega) | (rw [e.out]; simp; omega)), HF.out, hfr⟩
          case measure => simp [intOf]; omega
    · obtain rfl : j = bs.length := by omega
      rw [List.take_length] at hfin
      have hg := gm_fin bs hfin
      have HA : Hid (∀ (s : Int) (W : World), (-64 ≤ s ∧ s ≤ 64) → Fresh w W → Calls Tryd.prog 34 #[.slice ao bs.length cap, .int .i64 s] W fun e w' => Fresh W w' ∧ ∃ v, (Room s bs ∧ e = .returned (.tuple #[v, .bool true]) ∧ w'.ownsRow W.heap.size 37 1 v bs.length (q8s s bs)) ∨ (¬ Room s bs ∧ e = .returned (.tuple #[v, .bool false]))) := fun s W hs hW => refat_any p _ bs s W (R32.kept HRR.out hW (fun _ _ e => e)) hs hfin
      have HI := show Hid _ from fun s => room_iff s bs hfin hg
      have HG := show Hid _ from hg
      by_cases hA : az bs bs.length = true
      · rw [hA]
        have hall : ∀ b ∈ bs, mt b = 0 := fun b hb => by
          unfold az at hA
          rw [List.take_length, List.all_eq_true] at hA
          exact of_decide_eq_true (hA b hb)
        have h0 := gm_zero bs hfin hall
        have HR0 : Hid (Room 0 bs) := (HI.out 0).2 (by rw [h0, whl_zero]; omega)
        have HQ : Hid (QnIs bs 0 0 (bs.map (q8 0))) := .inr (.inr ⟨hg, .inl ⟨h0, rfl⟩, rfl, rfl⟩)
        clear hc hz hfin hg hA hall h0
        go_wp2_with fail
        refine (HA.out 0 _ ⟨by decide, by decide⟩ hfr).mono ?_
        rintro r w2 ⟨h2, v, ⟨_, rfl, ho⟩ | ⟨hn, _⟩⟩
        · have ho2 : w2.ownsRow w.heap.size 37 1 v (bs.map (q8 0)).length ((bs.map (q8 0)).map (Value.int .i8)) := by
            rw [List.length_map, ← q8s_map]; exact own_low ho hfr.size
          have HO2 := show Hid _ from ho2
          have hfr2 : Fresh w w2 := hfr.trans h2 (fun _ _ e => e)
          clear ho ho2
          go_wp2
          go_ret3
          exact ⟨_, _, _, _, HQ.out, rfl, hfr2, HO2.out⟩
        · exact absurd HR0.out hn
      · have hA2 : az bs bs.length = false := by simpa using hA
        rw [hA2]
        have hne : gm bs bs.length ≠ 0 := gm_some bs hfin fun h => hA (by
          unfold az
          rw [List.take_length, List.all_eq_true]
          exact fun b hb => decide_eq_true (h b hb))
        have HN := show Hid _ from hne
        clear hc hz hfin hg hA hA2 hne
        go_wp2
        go_loopw [13] (fun sv wr' => ∃ s : Int, -65 ≤ s ∧ s ≤ 64 ∧ sv = .int .i64 s ∧ (∀ s', s < s' → s' ≤ 64 → 127 < whl (gm bs bs.length) s') ∧ Fresh w wr') (fun sv _ => (intOf sv + 65).toNat)
        case atStart => exact ⟨64, by omega, by omega, rfl, fun s' h1 h2 => by omega, hfr⟩
        case round =>
          obtain ⟨s, hs1, hs2, rfl, hall, hfr'⟩ := hrel
          have HAll := show Hid _ from hall
          clear hall
          by_cases hlt2 : -64 ≤ s
          · go_wp2_with fail
            refine (HA.out s _ ⟨hlt2, hs2⟩ hfr').mono ?_
            rintro r w2 ⟨h2, v, ⟨hR, rfl, ho⟩ | ⟨hR, rfl⟩⟩
            · have HQ : Hid (QnIs bs 0 s (bs.map (q8 s))) := .inr (.inr ⟨HG.out, .inr ⟨HN.out, hlt2, hs2, (HI.out s).1 hR, HAll.out⟩, rfl, rfl⟩)
              have ho2 : w2.ownsRow w.heap.size 37 1 v (bs.map (q8 s)).length ((bs.map (q8 s)).map (Value.int .i8)) := by
                rw [List.length_map, ← q8s_map]; exact own_low ho hfr'.size
              have HO2 := show Hid _ from ho2
              have hfr2 : Fresh w w2 := hfr'.trans h2 (fun _ _ e => e)
              clear ho ho2 hR
              go_wp2
              go_ret3
              exact ⟨_, _, _, _, HQ.out, rfl, hfr2, HO2.out⟩
            · have HNo : Hid (127 < whl (gm bs bs.length) s) := Nat.lt_of_not_le fun h => hR ((HI.out s).2 h)
              have hfr2 : Fresh w w2 := hfr'.trans h2 (fun _ _ e => e)
              clear hR
              go_wp2
              go_roundw
              case rel => exact ⟨s - 1, by omega, by omega, by go_num, fun s' h1 h2 => by
                rcases Int.lt_or_le s s' with h3 | h3
                · exact HAll.out s' h3 h2
                · obtain rfl : s' = s := by omega
                  exact HNo.out, hfr2⟩
              case measure => simp [intOf]; omega
          · obtain rfl : s = -65 := by omega
            have HQ : Hid (QnIs bs 31 0 []) := .inr (.inl ⟨HG.out, HN.out, fun s' h1 h2 => HAll.out s' (by omega) h2, rfl, rfl, rfl⟩)
            go_wp2
            go_ret3
            exact ⟨_, _, _, _, HQ.out, rfl, hfr'.alloc _, HO.out _ hfr'⟩

end Go.Proofs.YtmkaafnoanidpaaDoor
