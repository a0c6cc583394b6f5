/-
  The document's Cut.
-/
import Derived.Test.YtomeoklhjdgaoaaDoorStn
namespace Go.Proofs.YtomeoklhjdgaoaaDoor
open Go.RowKit Go.Lib Go.Maps

/-- Which one, as a number. -/
def atV (o : Option Nat) : Int := match o with
  | none => -1
  | some j => (j : Int)
theorem en_enB {t x : List UInt8} {n : Nat} (hn : n ≤ t.length) : enB (t.take n) x = true ↔ En t x n := by
  unfold enB
  rw [decide_eq_true_iff, ends_en hn]
set_option maxHeartbeats 8000000 in
set_option maxRecDepth 100000 in
theorem refCut_any {p : Nat → Prop} (T : List (List UInt8)) (l : List UInt8) (v : Value) (w : World) (hl : l.length ≤ 16777216) (hR : TxR p w v T) (hT : ∀ j, j < T.length → tX T j ≠ []) :
    Calls Tryd.prog 18 #[v, sV l] w fun e w' => e = .returned (.tuple #[sV (cuS T l), zV (cuM T l)]) ∧ Fresh w w' := by
  obtain ⟨ao, cap, rfl⟩ := hR.shape
  have HR : Hid (TxR p w (.slice ao T.length cap) T) := hR
  have HE : Hid (∀ i, i < T.length → (tX T i).length ≤ 1048576) := hR.each
  have h20 := hR.len
  have HNo : Hid ((∀ n, n < l.length + 1 → bst T l n T.length = none) → cuS T l = l ∧ cuM T l = -1) := fun h => by
    have hN : NoCut T l := fun n => by
      by_cases e : n < l.length + 1
      · exact h n e
      · exact bst_none.2 (fun j hj he => by have := he.room (hT j hj); omega)
    have := (cuN_none hT).2 hN
    exact ⟨by unfold cuS; rw [this], by unfold cuM; rw [this]⟩
  have HYes : Hid (∀ n p, bst T l n T.length = some p → (∀ m, m < n → bst T l m T.length = none) → cuS T l = l.take (n - (tX T p).length) ∧ cuM T l = p ∧ (tX T p).length ≤ n ∧ p < T.length) := fun n p h hm => by
    obtain ⟨_, e2, e3⟩ := cuN_of hT h hm
    exact ⟨e3, e2, (bst_some h).2.1, (bst_some h).1⟩
  have hsz : (⟨l.toArray⟩ : ByteArray).size = l.length := len_l l
  have HSl : Hid (∀ n, n ≤ l.length → ∀ w, (Instr.slice 9 (sV l) none (some (.int .i64 (n : Int))) none).run Tryd.prog w = .ok (sV (l.take n)) w) := fun n h w => slice_to l n h w
  have HEn : Hid (∀ n i W, n ≤ l.length → i < T.length → Calls Tryd.prog 39 #[sV (l.take n), sV (tX T i)] W fun e w' => e = .returned (.bool (enB (l.take n) (tX T i))) ∧ w' = W) := fun n i W hn hi => refEnds_any _ _ W (by rw [List.length_take]; omega) (by have := HE.out i hi; omega)
  clear hR hT
  generalize cuS T l = D at *
  generalize cuM T l = M at *
  generalize hTl : T.length = tn at *
  have hTl' : Hid (T.length = tn) := hTl
  clear hTl
  generalize hll : l.length = ln at *
  have hll' : Hid (l.length = ln) := hll
  clear hll
  go_enter Tryd.func18, Tryd.ntmps18
  go_wp2
  go_loopw [6] (fun nv wr => ∃ n : Nat, n ≤ ln + 1 ∧ nv = zV n ∧ wr = w ∧ Hid (∀ m, m < n → bst T l m tn = none)) (fun nv _ => ln + 1 - (RowKit.intOf nv).toNat)
  case atStart => exact ⟨0, by omega, rfl, rfl, fun j hj => absurd hj (Nat.not_lt_zero _)⟩
  case round =>
    obtain ⟨n, hn, rfl, hWW, HQ⟩ := hrel
    have hWW' := hWW.symm
    subst hWW'
    clear hWW
    by_cases hle : n ≤ ln
    · have hle' : (n : Int) ≤ (ln : Int) := by omega
      have hsl := HSl.out n hle
      go_wp2
      go_loopw [7, 18] (fun av iv wr => ∃ i : Nat, i ≤ tn ∧ iv = zV i ∧ av = zV (atV (bst T l n i)) ∧ wr = w) (fun _ iv _ => tn - (RowKit.intOf iv).toNat)
      case atStart => exact ⟨0, Nat.zero_le _, rfl, rfl, rfl⟩
      case round =>
        obtain ⟨i, hi, rfl, rfl, hWW⟩ := hrel
        have hWW' := hWW.symm
        subst hWW'
        clear hWW
        by_cases hlt : i < tn
        · have hlt' : (i : Int) < (tn : Int) := by omega
          obtain ⟨b, off, rfl, _, hbl, hcell⟩ := HR.out.cells.2.2 (by omega)
          have c0 := hcell i hlt
          have HC := show Hid _ from HEn.out n i w hle hlt
          have hxl := HE.out i hlt
          have HB : Hid (enB (l.take n) (tX T i) = true ↔ En l (tX T i) n) := en_enB (by rw [hll'.out]; exact hle)
          have hsx : (⟨(tX T i).toArray⟩ : ByteArray).size = (tX T i).length := len_l _
          have HBs : Hid (∀ j, bst T l n i = some j → j < i) := fun j hj => (bst_some hj).1
          have HCell : Hid (∀ j, j < tn → w.cell? ⟨b, off + j, none⟩ = some (sV (tX T j))) := hcell
          have HNext : Hid ((enB (l.take n) (tX T i) = false → bst T l n (i + 1) = bst T l n i) ∧ (enB (l.take n) (tX T i) = true → bst T l n (i + 1) = if bet T (bst T l n i) i = true then some i else bst T l n i)) := by
            constructor
            · intro h
              exact bst_skip (fun e => by rw [HB.out.2 e] at h; cases h)
            · intro h
              have := HB.out.1 h
              conv => lhs; unfold bst
              by_cases hb : bet T (bst T l n i) i = true
              · rw [if_pos ⟨this, hb⟩, if_pos hb]
              · rw [if_neg (fun e => hb e.2), if_neg hb]
          clear hcell HB
          generalize l.take n = ln0 at *
          cases hq : enB ln0 (tX T i) with
          | false =>
            rw [hq] at HC
            have HN2 : Hid (bst T l n (i + 1) = bst T l n i) := HNext.out.1 hq
            clear HNext hq HBs HCell
            generalize tX T i = x at *
            go_wp2_with fail
            refine Calls.mono HC.out ?_
            rintro e' W1 ⟨rfl, hW⟩
            have hW' := hW.symm
            subst hW'
            clear HC hW
            go_wp2
            go_roundw
            case rel => exact ⟨i + 1, by omega, by go_num, by rw [HN2.out], by first | rfl | trivial⟩
            case measure => simp [RowKit.intOf]; omega
          | true =>
            rw [hq] at HC
            have HN2 := show Hid _ from HNext.out.2 hq
            clear HNext hq
            cases hb : bst T l n i with
            | none =>
              have HN3 : Hid (bst T l n (i + 1) = some i) := by have := HN2.out; rw [hb] at this; exact this
              clear HN2 HBs HCell hb
              rw [show atV none = -1 from rfl]
              generalize tX T i = x at *
              go_wp2_with fail
              refine Calls.mono HC.out ?_
              rintro e' W1 ⟨rfl, hW⟩
              have hW' := hW.symm
              subst hW'
              clear HC hW
              go_wp2
              go_roundw
              case rel => exact ⟨i + 1, by omega, by go_num, by rw [HN3.out]; rfl, by first | rfl | trivial⟩
              case measure => simp [RowKit.intOf]; omega
            | some j =>
              have hji := HBs.out j hb
              have cj := HCell.out j (by omega)
              have hjl := HE.out j (by omega)
              have hsj : (⟨(tX T j).toArray⟩ : ByteArray).size = (tX T j).length := len_l _
              have hj0 : decide ((j : Int) < 0) = false := decide_eq_false (by omega)
              have hjt : (j : Int) < (tn : Int) := by omega
              by_cases hbet : (tX T j).length < (tX T i).length
              · have HN3 : Hid (bst T l n (i + 1) = some i) := by have := HN2.out; rw [hb, show bet T (some j) i = true from decide_eq_true hbet, if_pos rfl] at this; exact this
                have hbd : decide (((tX T j).length : Int) < ((tX T i).length : Int)) = true := decide_eq_true (by omega)
                clear HN2 HBs HCell hb
                rw [show atV (some j) = (j : Int) from rfl]
                generalize tX T i = x at *
                generalize tX T j = y at *
                go_wp2_with fail
                refine Calls.mono HC.out ?_
                rintro e' W1 ⟨rfl, hW⟩
                have hW' := hW.symm
                subst hW'
                clear HC hW
                go_wp2
                go_roundw
                case rel => exact ⟨i + 1, by omega, by go_num, by rw [HN3.out]; rfl, by first | rfl | trivial⟩
                case measure => simp [RowKit.intOf]; omega
              · have HN3 : Hid (bst T l n (i + 1) = some j) := by have := HN2.out; rw [hb, show bet T (some j) i = false from decide_eq_false hbet, if_neg (by decide)] at this; exact this
                have hbd : decide (((tX T j).length : Int) < ((tX T i).length : Int)) = false := decide_eq_false (by omega)
                clear HN2 HBs HCell hb
                rw [show atV (some j) = (j : Int) from rfl]
                generalize tX T i = x at *
                generalize tX T j = y at *
                go_wp2_with fail
                refine Calls.mono HC.out ?_
                rintro e' W1 ⟨rfl, hW⟩
                have hW' := hW.symm
                subst hW'
                clear HC hW
                go_wp2
                go_roundw
                case rel => exact ⟨i + 1, by omega, by go_num, by rw [HN3.out]; rfl, by first | rfl | trivial⟩
                case measure => simp [RowKit.intOf]; omega
        · have hlt' : ¬ (i : Int) < (tn : Int) := by omega
          have hin : i = tn := by omega
          subst hin
          cases hb : bst T l n i with
          | none =>
            have HQ2 : Hid (∀ m, m < n + 1 → bst T l m i = none) := fun m hm => by
              by_cases e : m = n
              · rw [e]; exact hb
              · exact HQ.out m (by omega)
            rw [show atV none = -1 from rfl]
            clear hb HEn HYes HSl hsl
            go_wp2
            go_roundw
            case rel => exact ⟨n + 1, by omega, by go_num, by first | rfl | trivial, HQ2⟩
            case measure => simp [RowKit.intOf]; omega
          | some j =>
            obtain ⟨r1, r2, r3, r4⟩ := HYes.out n j hb HQ.out
            obtain ⟨b, off, rfl, _, hbl, hcell⟩ := HR.out.cells.2.2 (by omega)
            have cj := hcell j r4
            have hjl := HE.out j r4
            have hsj : (⟨(tX T j).toArray⟩ : ByteArray).size = (tX T j).length := len_l _
            have hj0 : (0 : Int) ≤ (j : Int) := by omega
            have hjt : (j : Int) < (i : Int) := by omega
            have hsl2 := HSl.out (n - (tX T j).length) (by omega)
            rw [← r1, show ((n - (tX T j).length : Nat) : Int) = (n : Int) - ((tX T j).length : Int) by omega] at hsl2
            have HR2 : Hid (M = (j : Int)) := r2
            rw [show atV (some j) = (j : Int) from rfl]
            clear hb HEn HYes HSl hsl hcell r1 r2
            generalize tX T j = y at *
            go_wp2
            go_ret2
            exact ⟨by rw [HR2.out]; rfl, Kept.refl _ _⟩
    · have hle' : ¬ (n : Int) ≤ (ln : Int) := by omega
      obtain ⟨r1, r2⟩ := HNo.out (fun m hm => HQ.out m (by omega))
      have HR1 : Hid (D = l ∧ M = -1) := ⟨r1, r2⟩
      clear HNo HYes HQ HSl HEn r1 r2
      go_wp2
      go_ret2
      exact ⟨by rw [HR1.out.1, HR1.out.2]; rfl, Kept.refl _ _⟩
end Go.Proofs.YtomeoklhjdgaoaaDoor
