/-
  The document's Decode.
-/
import Derived.Test.YtjjpkidmlpmgaaaVoz
namespace Go.Proofs.Ytjjpkidmlpmgaaa
open Go.RowKit Go.Lib Go.Maps

set_option maxHeartbeats 1000000 in
set_option maxRecDepth 100000 in
theorem refDecode_any {p q : Nat → Prop} (X : World) (tv mv lv : Value) (T : List (List UInt8)) (M : List Mg) (L : List Int) (hT : TxR p X tv T) (hM : MgR p X mv M) (hL : Rk .i64 q X lv L) (hl : L.length ≤ 549755813888) :
    Calls Try.prog 18 #[.agg #[tv, mv], lv] X fun e X' => e = .returned (.tuple #[sV (deS T M L), zV (deP T M L), zV (deE T M L)]) ∧ Fresh X X' := by
  have HF1 : Hid (Fresh X (X.alloc (.cells #[tv, mv] 28))) := (Kept.refl _ X).alloc _
  have hb0 : (X.alloc (.cells #[tv, mv] 28)).cell? ⟨X.heap.size, 0, none⟩ = some tv := by rw [World.cell?_alloc_new]; rfl
  have hb1 : (X.alloc (.cells #[tv, mv] 28)).cell? ⟨X.heap.size, 1, none⟩ = some mv := by rw [World.cell?_alloc_new]; rfl
  have HB : Hid (∀ w, Fresh (X.alloc (.cells #[tv, mv] 28)) w → w.cell? ⟨X.heap.size, 0, none⟩ = some tv) := fun w hk => by
    have hz : X.heap.size < (X.alloc (.cells #[tv, mv] 28)).heap.size := by rw [World.size_alloc]; omega
    exact (hk.cell (p := ⟨X.heap.size, 0, none⟩) hz (fun e => e)).trans hb0
  have HC1 : Hid (∀ w, Fresh X w → Calls Try.prog 11 #[.agg #[tv, mv]] w fun e X' => e = .returned (.tuple #[zV (chP T M), zV (chE T M)]) ∧ Fresh w X') := fun w hk => refCheck_any w tv mv T M (hT.fresh hk) (hM.fresh hk)
  have HT : Hid (∀ w, Fresh X w → TxR p w tv T) := fun w hk => hT.fresh hk
  have HL : Hid (∀ w, Fresh X w → Rk .i64 q w lv L) := fun w hk => hL.fresh hk
  have H64 : Hid (chE T M = 0 → ∀ i, i < T.length → (gT T i).length ≤ 64) := fun h0 => good_64 (chE_zero h0).1
  obtain ⟨ta, tc, rfl⟩ := hT.shape
  obtain ⟨ma, mc, rfl⟩ := hM.shape
  obtain ⟨la, lc, rfl, _, _⟩ := hL.shape
  have HP : Hid (deP T M L = if chE T M ≠ 0 then chP T M else match btF T L with | some i => (i : Int) | none => 0) := rfl
  have HE : Hid (deE T M L = if chE T M ≠ 0 then chE T M else match btF T L with | some _ => 133 | none => 0) := rfl
  have HR : Hid (deS T M L = if chE T M ≠ 0 then [] else match btF T L with | some _ => [] | none => caT T L L.length) := rfl
  generalize deP T M L = P at *
  generalize deE T M L = E at *
  generalize deS T M L = RR at *
  clear hT hM hL
  generalize chP T M = cp at *
  generalize chE T M = ce at *
  have HBt : Hid (btF T L = fdF (fun i => decide (gI L i < 0 ∨ (T.length : Int) ≤ gI L i)) L.length) := rfl
  have HCl : Hid ((∀ i, i < T.length → (gT T i).length ≤ 64) → ∀ j, (caT T L j).length ≤ 64 * j) := fun h => caT_len h
  generalize hTl : T.length = tn at *
  generalize M.length = mn at *
  generalize hLl : L.length = ln at *
  generalize hX1 : X.alloc (.cells #[.slice ta tn tc, .slice ma mn mc] 28) = X1 at *
  have HCall := show Hid _ from HC1.out X1 HF1.out
  clear HC1
  go_enter Try.func18, Try.ntmps18
  go_wp2_with fail
  refine Calls.mono HCall.out ?_
  rintro e W2 ⟨rfl, hF2⟩
  have HF2 : Hid (Fresh X W2) := HF1.out.trans hF2 (fun _ _ e => e)
  have x0 := HB.out W2 hF2
  clear HCall hb0 hb1
  by_cases h1 : ce = 0
  · rw [if_neg (by simpa using h1)] at HP HE HR
    have H65 : Hid (∀ i, i < tn → (gT T i).length ≤ 64) := H64.out h1
    clear H64 hF2 HB
    subst h1
    go_wp2
    go_loopw [9, 10] (fun sv iv wr => ∃ j d : Nat, j ≤ ln ∧ iv = zV j ∧ sv = .string (ByteArray.mk (caT T L j).toArray) ∧ wr = W2.drewN d ∧ Hid (∀ i, i < j → ¬ (gI L i < 0 ∨ (tn : Int) ≤ gI L i))) (fun _ iv _ => ln - (RowKit.intOf iv).toNat)
    case atStart => exact ⟨0, 0, Nat.zero_le _, rfl, rfl, rfl, fun i hi => absurd hi (Nat.not_lt_zero _)⟩
    case round =>
      obtain ⟨j, d, hj, rfl, rfl, rfl, HQ⟩ := hrel
      by_cases hlt : j < ln
      · have hlt' : (j : Int) < (ln : Int) := by omega
        obtain ⟨b, off, rfl, _, _, hcell⟩ := (HL.out W2 HF2.out).cells.2.2.2 (by omega)
        have t0 : W2.cell? ⟨b, off + j, none⟩ = some (.int .i64 (gI L j)) := hcell j hlt
        clear hcell
        by_cases hz : gI L j < 0 ∨ (tn : Int) ≤ gI L j
        · have hbt : btF T L = some j := by
            rw [HBt.out]
            refine fdF_some hlt (decide_eq_true hz) (fun i hi => decide_eq_false (HQ.out i hi))
          rw [hbt] at HP HE HR
          have HP' : Hid (P = (j : Int)) := HP
          have HE' : Hid (E = 133) := HE
          have HR' : Hid (RR = []) := HR
          clear HP HE HR hbt HQ HBt
          generalize gI L j = y at *
          generalize ByteArray.mk (caT T L j).toArray = ss at *
          by_cases hn : y < 0
          · have d1 : decide (y < 0) = true := by simpa using hn
            clear hz
            go_wp2_with fail
            go_quiet (fail)
            go_wp2
            go_ret3
            exact ⟨by rw [HP'.out, HE'.out, HR'.out]; rfl, (HF2.out.drewN _).drewN _⟩
          · have hn2 : (tn : Int) ≤ y := by omega
            have d1 : decide (y < 0) = false := by simpa using hn
            have d2 : decide ((tn : Int) ≤ y) = true := by simpa using hn2
            clear hz
            go_wp2_with fail
            go_quiet (fail)
            go_wp2
            go_ret3
            exact ⟨by rw [HP'.out, HE'.out, HR'.out]; rfl, (HF2.out.drewN _).drewN _⟩
        · have HQ2 : Hid (∀ i, i < j + 1 → ¬ (gI L i < 0 ∨ (tn : Int) ≤ gI L i)) := fun i hi => by
            by_cases e : i = j
            · rw [e]; exact hz
            · exact HQ.out i (by omega)
          obtain ⟨y, hy⟩ : ∃ y : Nat, gI L j = (y : Int) := ⟨(gI L j).toNat, by omega⟩
          rw [hy] at t0 hz
          have hy2 : y < tn := by omega
          obtain ⟨b2, off2, rfl, _, _, hcell2⟩ := (HT.out W2 HF2.out).cells.2.2 (by omega)
          have t1 : W2.cell? ⟨b2, off2 + y, none⟩ = some (.string (ByteArray.mk (gT T y).toArray)) := hcell2 y hy2
          have hnx : ByteArray.mk (caT T L (j + 1)).toArray = ByteArray.mk (caT T L j).toArray ++ ByteArray.mk (gT T y).toArray := by
            rw [bA_app]
            show ByteArray.mk (caT T L j ++ gT T (gI L j).toNat).toArray = _
            rw [hy, Int.toNat_natCast]
          have h64 := H65.out y hy2
          have hcl := HCl.out H65.out j
          rw [← bA_size] at h64 hcl
          have d1 : decide ((y : Int) < 0) = false := by simp
          have d2 : decide ((tn : Int) ≤ (y : Int)) = false := by simp; omega
          clear HP HE HR HQ HBt hcell2 hz
          generalize hs2 : ByteArray.mk (caT T L (j + 1)).toArray = s2 at *
          generalize ByteArray.mk (caT T L j).toArray = ss at *
          generalize ByteArray.mk (gT T y).toArray = st at *
          have HS2 : Hid (ByteArray.mk (caT T L (j + 1)).toArray = ss ++ st) := hs2.trans hnx
          clear hs2 hnx
          go_wp2_with fail
          go_quiet (fail)
          generalize nq = n1
          go_wp2_with fail
          go_quiet (fail)
          go_wp2
          go_roundw
          case rel => exact ⟨j + 1, _, hlt, by go_num, by rw [HS2.out], rfl, HQ2.out⟩
          case measure => simp [RowKit.intOf]; omega
      · obtain rfl : j = ln := by omega
        have hbt : btF T L = none := by rw [HBt.out]; exact fdF_none (fun i hi => decide_eq_false (HQ.out i hi))
        rw [hbt] at HP HE HR
        have HP' : Hid (P = 0) := HP
        have HE' : Hid (E = 0) := HE
        have HR' : Hid (RR = caT T L j) := HR
        clear HP HE HR hbt HBt HQ
        go_wp2
        go_ret3
        exact ⟨by rw [HP'.out, HE'.out, HR'.out]; rfl, HF2.out.drewN _⟩
  · rw [if_pos h1] at HP HE HR
    have h1' : (ce == 0) = false := by simpa using h1
    clear H64 HB HT HL HBt
    go_wp2
    go_ret3
    exact ⟨by rw [HP.out, HE.out, HR.out]; rfl, HF2.out⟩
end Go.Proofs.Ytjjpkidmlpmgaaa
