/-
  Decode.
-/
import Derived.Test.YtjjpkidmlpmgaaaVot
namespace Go.Proofs.Ytjjpkidmlpmgaaa
open Go.RowKit Go.Lib Go.Maps

/-- What the first tokens say. -/
def caT (T : List (List UInt8)) (L : List Int) : Nat → List UInt8
  | 0 => []
  | j + 1 => caT T L j ++ gT T (gI L j).toNat
/-- The first number that is no token. -/
def btF (T : List (List UInt8)) (L : List Int) : Option Nat := fdF (fun i => decide (gI L i < 0 ∨ (T.length : Int) ≤ gI L i)) L.length
def deE (T : List (List UInt8)) (M : List Mg) (L : List Int) : Int := if chE T M ≠ 0 then chE T M else match btF T L with
  | some _ => 133
  | none => 0
def deP (T : List (List UInt8)) (M : List Mg) (L : List Int) : Int := if chE T M ≠ 0 then chP T M else match btF T L with
  | some i => (i : Int)
  | none => 0
def deS (T : List (List UInt8)) (M : List Mg) (L : List Int) : List UInt8 := if chE T M ≠ 0 then [] else match btF T L with
  | some _ => []
  | none => caT T L L.length
theorem caT_len {T : List (List UInt8)} {L : List Int} (h : ∀ i, i < T.length → (gT T i).length ≤ 64) : ∀ j, (caT T L j).length ≤ 64 * j
  | 0 => Nat.le_refl _
  | j + 1 => by
    have ih := caT_len (L := L) h j
    have : (gT T (gI L j).toNat).length ≤ 64 := by
      rcases Nat.lt_or_ge (gI L j).toNat T.length with e | e
      · exact h _ e
      · rw [gT, List.getD_eq_getElem?_getD, List.getElem?_eq_none e]; exact Nat.zero_le _
    show (caT T L j ++ gT T (gI L j).toNat).length ≤ _
    rw [List.length_append]
    omega
theorem byC_app (a b : List UInt8) : Lib.byteCells (a ++ b) = Lib.byteCells a ++ Lib.strCells ⟨b.toArray⟩ := by
  simp [Lib.byteCells, Lib.strCells]
set_option maxHeartbeats 1000000 in
set_option maxRecDepth 100000 in
theorem Decode_any {p q : Nat → Prop} (X : World) (tv mv lv : Value) (T : List (List UInt8)) (M : List Mg) (L : List Int) (hT : TxR p X tv T) (hM : MgR p X mv M) (hL : Rk .i64 q X lv L) (hl : L.length ≤ 549755813888) :
    Calls Try.prog 17 #[.agg #[tv, mv], lv] X fun e X' => e = .returned (.tuple #[sV (deS T M L), zV (deP T M L), zV (deE T M L)]) ∧ Fresh X X' := by
  have HF1 : Hid (Fresh X (X.alloc (.cells #[tv, mv] 25))) := (Kept.refl _ X).alloc _
  have hb0 : (X.alloc (.cells #[tv, mv] 25)).cell? ⟨X.heap.size, 0, none⟩ = some tv := by rw [World.cell?_alloc_new]; rfl
  have hb1 : (X.alloc (.cells #[tv, mv] 25)).cell? ⟨X.heap.size, 1, none⟩ = some mv := by rw [World.cell?_alloc_new]; rfl
  have HB : Hid (∀ w, Fresh (X.alloc (.cells #[tv, mv] 25)) w → w.cell? ⟨X.heap.size, 0, none⟩ = some tv) := fun w hk => by
    have hz : X.heap.size < (X.alloc (.cells #[tv, mv] 25)).heap.size := by rw [World.size_alloc]; omega
    exact (hk.cell (p := ⟨X.heap.size, 0, none⟩) hz (fun e => e)).trans hb0
  have HC1 : Hid (∀ w, Fresh X w → Calls Try.prog 10 #[.agg #[tv, mv]] w fun e X' => e = .returned (.tuple #[zV (chP T M), zV (chE T M)]) ∧ Fresh w X') := fun w hk => check_any w tv mv T M (hT.fresh hk) (hM.fresh hk)
  have HT : Hid (∀ w, Fresh X w → TxR p w tv T) := fun w hk => hT.fresh hk
  have HL : Hid (∀ w, Fresh X w → Rk .i64 q w lv L) := fun w hk => hL.fresh hk
  have H64 : Hid (chE T M = 0 → ∀ i, i < T.length → (gT T i).length ≤ 64) := fun h0 => good_64 (chE_zero h0).1
  obtain ⟨ta, tc, rfl⟩ := hT.shape
  obtain ⟨ma, mc, rfl⟩ := hM.shape
  obtain ⟨la, lc, rfl, _, _⟩ := hL.shape
  have HP : Hid (deP T M L = if chE T M ≠ 0 then chP T M else match btF T L with | some i => (i : Int) | none => 0) := rfl
  have HE : Hid (deE T M L = if chE T M ≠ 0 then chE T M else match btF T L with | some _ => 133 | none => 0) := rfl
  have HR : Hid (deS T M L = if chE T M ≠ 0 then [] else match btF T L with | some _ => [] | none => caT T L L.length) := rfl
  generalize deP T M L = P at *
  generalize deE T M L = E at *
  generalize deS T M L = RR at *
  clear hT hM hL
  generalize chP T M = cp at *
  generalize chE T M = ce at *
  have HBt : Hid (btF T L = fdF (fun i => decide (gI L i < 0 ∨ (T.length : Int) ≤ gI L i)) L.length) := rfl
  have HCl : Hid ((∀ i, i < T.length → (gT T i).length ≤ 64) → ∀ j, (caT T L j).length ≤ 64 * j) := fun h => caT_len h
  generalize hTl : T.length = tn at *
  generalize M.length = mn at *
  generalize hLl : L.length = ln at *
  generalize hX1 : X.alloc (.cells #[.slice ta tn tc, .slice ma mn mc] 25) = X1 at *
  have HCall := show Hid _ from HC1.out X1 HF1.out
  clear HC1
  go_enter Try.func17, Try.ntmps17
  go_wp2_with fail
  refine Calls.mono HCall.out ?_
  rintro e W2 ⟨rfl, hF2⟩
  have HF2 : Hid (Fresh X W2) := HF1.out.trans hF2 (fun _ _ e => e)
  have x0 := HB.out W2 hF2
  clear HCall hb0 hb1
  by_cases h1 : ce = 0
  · rw [if_neg (by simpa using h1)] at HP HE HR
    have H65 : Hid (∀ i, i < tn → (gT T i).length ≤ 64) := H64.out h1
    have HF12 : Hid (Fresh X1 W2) := hF2
    clear H64 hF2
    subst h1
    go_wp2
    go_loopw [25] (fun iv wr => ∃ j : Nat, j ≤ ln ∧ iv = zV j ∧ wr = W2 ∧ Hid (∀ i, i < j → ¬ (gI L i < 0 ∨ (tn : Int) ≤ gI L i))) (fun iv _ => ln - (RowKit.intOf iv).toNat)
    case atStart => exact ⟨0, Nat.zero_le _, rfl, rfl, fun i hi => absurd hi (Nat.not_lt_zero _)⟩
    case round =>
      obtain ⟨j, hj, rfl, hWW, HQ⟩ := hrel
      have hWW' := hWW.symm
      subst hWW'
      clear hWW
      by_cases hlt : j < ln
      · have hlt' : (j : Int) < (ln : Int) := by omega
        obtain ⟨b, off, rfl, _, _, hcell⟩ := (HL.out W2 HF2.out).cells.2.2.2 (by omega)
        have t0 : W2.cell? ⟨b, off + j, none⟩ = some (.int .i64 (gI L j)) := hcell j hlt
        clear hcell
        by_cases hz : gI L j < 0 ∨ (tn : Int) ≤ gI L j
        · have hbt : btF T L = some j := by
            rw [HBt.out]
            refine fdF_some hlt (decide_eq_true hz) (fun i hi => decide_eq_false (HQ.out i hi))
          rw [hbt] at HP HE HR
          have HP' : Hid (P = (j : Int)) := HP
          have HE' : Hid (E = 133) := HE
          have HR' : Hid (RR = []) := HR
          clear HP HE HR hbt HQ HBt
          generalize gI L j = y at *
          by_cases hn : y < 0
          · go_wp2
            go_ret3
            exact ⟨by rw [HP'.out, HE'.out, HR'.out]; rfl, HF2.out⟩
          · have hn2 : (tn : Int) ≤ y := by omega
            clear hz
            go_wp2
            go_ret3
            exact ⟨by rw [HP'.out, HE'.out, HR'.out]; rfl, HF2.out⟩
        · have HQ2 : Hid (∀ i, i < j + 1 → ¬ (gI L i < 0 ∨ (tn : Int) ≤ gI L i)) := fun i hi => by
            by_cases e : i = j
            · rw [e]; exact hz
            · exact HQ.out i (by omega)
          have hn1 : ¬ gI L j < 0 := by omega
          have hn2 : ¬ (tn : Int) ≤ gI L j := by omega
          clear HP HE HR HQ HBt hz
          generalize gI L j = y at *
          go_wp2
          go_roundw
          case rel => exact ⟨j + 1, hlt, by go_num, trivial, HQ2.out⟩
          case measure => simp [RowKit.intOf]; omega
      · obtain rfl : j = ln := by omega
        have hbt : btF T L = none := by rw [HBt.out]; exact fdF_none (fun i hi => decide_eq_false (HQ.out i hi))
        rw [hbt] at HP HE HR
        have HP' : Hid (P = 0) := HP
        have HE' : Hid (E = 0) := HE
        have HR' : Hid (RR = caT T L j) := HR
        have HI0 : Hid (IsB W2.heap.size W2.heap.size (Lib.byteCells []) (W2.alloc (.cells #[.pointer none, .slice none 0 0] 65))) := .inl ⟨Nat.le_refl _, _, heap_alloc_new W2 _, own_nil _ _ _, by simp [Value.ownBlock]⟩
        have HBl0 : Hid (Below W2.heap.size W2 (W2.alloc (.cells #[.pointer none, .slice none 0 0] 65))) := (Below.refl _ W2).alloc (Nat.le_refl _) _
        clear HP HE HR hbt HBt
        go_wp2
        generalize hW3 : W2.alloc (.cells #[.pointer none, .slice none 0 0] 65) = W3 at *
        generalize hB0 : W2.heap.size = B at *
        clear hW3
        go_loopw [43] (fun iv w4 => ∃ i : Nat, i ≤ j ∧ iv = zV i ∧ Hid (IsB B B (Lib.byteCells (caT T L i)) w4 ∧ Below B W2 w4)) (fun iv _ => j - (RowKit.intOf iv).toNat)
        case atStart => exact ⟨0, Nat.zero_le _, rfl, HI0.out, HBl0.out⟩
        case round =>
          obtain ⟨i, hi, rfl, HQ2⟩ := hrel
          clear HI0 HBl0
          have HFr : Hid (Fresh W2 wr) := Kept.ofBelow HQ2.out.2 (fun q hq e => by omega)
          have HFx : Hid (Fresh X wr) := HF2.out.trans HFr.out (fun _ _ e => e)
          by_cases hlt2 : i < j
          · have hlt' : (i : Int) < (j : Int) := by omega
            obtain ⟨b, off, rfl, _, _, hcell⟩ := (HL.out wr HFx.out).cells.2.2.2 (by omega)
            have t0 : wr.cell? ⟨b, off + i, none⟩ = some (.int .i64 (gI L i)) := hcell i hlt2
            have hz := HQ.out i hlt2
            obtain ⟨y, hy⟩ : ∃ y : Nat, gI L i = (y : Int) := ⟨(gI L i).toNat, by omega⟩
            rw [hy] at t0 hz
            have hy2 : y < tn := by omega
            obtain ⟨b2, off2, rfl, _, _, hcell2⟩ := (HT.out wr HFx.out).cells.2.2 (by omega)
            have t1 : wr.cell? ⟨b2, off2 + y, none⟩ = some (.string (ByteArray.mk (gT T y).toArray)) := hcell2 y hy2
            have x1 : wr.cell? ⟨X.heap.size, 0, none⟩ = some (.slice (some ⟨b2, off2, none⟩) tn tc) := HB.out wr (HF12.out.trans HFr.out (fun _ _ e => e))
            have h64 := H65.out y hy2
            have hcl := HCl.out H65.out i
            have hnx : caT T L (i + 1) = caT T L i ++ gT T y := by show caT T L i ++ gT T (gI L i).toNat = _; rw [hy, Int.toNat_natCast]
            have HCall : Hid (Calls Try.prog 27 #[.pointer (some ⟨B, 0, none⟩), .string (ByteArray.mk (gT T y).toArray)] wr fun e w' => e = .returned (.tuple #[.int .i64 (ByteArray.mk (gT T y).toArray).size, .nilIface]) ∧ (IsB B B (Lib.byteCells (caT T L (i + 1))) w' ∧ Below B wr w')) := by
              have := writeString_any B B (Lib.byteCells (caT T L i)) (ByteArray.mk (gT T y).toArray) wr HQ2.out.1 (by rw [Lib.byteCells_length, bA_size]; omega) (by have := HFr.out.size; omega)
              rw [hnx, byC_app]
              exact this
            have HBw := show Hid _ from HQ2.out.2
            clear hcell hcell2 hcl hnx h64 HQ2
            generalize ByteArray.mk (gT T y).toArray = ss at *
            go_wp2_with fail
            refine Calls.mono HCall.out ?_
            rintro e W5 ⟨rfl, hI5, hB5⟩
            have HN : Hid (IsB B B (Lib.byteCells (caT T L (i + 1))) W5 ∧ Below B W2 W5) := ⟨hI5, HBw.out.trans hB5⟩
            clear HCall hI5 hB5 HBw
            go_wp2
            go_roundw
            case rel => exact ⟨i + 1, hlt2, by go_num, HN.out⟩
            case measure => simp [RowKit.intOf]; omega
          · obtain rfl : i = j := by omega
            have HCall := show Hid _ from Try.Builder_String_any B B (caT T L i) wr HQ2.out.1 (by have := HFr.out.size; omega)
            go_wp2_with fail
            refine Calls.mono HCall.out ?_
            rintro e W5 ⟨rfl, hB5⟩
            have HN : Hid (Fresh X W5) := HFx.out.trans (Kept.ofBelow hB5 (fun q hq e => e)) (fun q hq e => by
              have h1 := HF2.out.size
              omega)
            clear HCall hB5
            go_wp2
            go_ret3
            exact ⟨by rw [HP'.out, HE'.out, HR'.out]; rfl, HN.out⟩
  · rw [if_pos h1] at HP HE HR
    have h1' : (ce == 0) = false := by simpa using h1
    clear H64 HB HT HL HBt
    go_wp2
    go_ret3
    exact ⟨by rw [HP.out, HE.out, HR.out]; rfl, HF2.out⟩
end Go.Proofs.Ytjjpkidmlpmgaaa
