/-
  The document's Check, ends.
-/
import Derived.Test.YtomeoklhjdgaoaaDoorStm
import Derived.Test.YtomeoklhjdgaoaaDoorSti
namespace Go.Proofs.YtomeoklhjdgaoaaDoor
open Go.RowKit Go.Lib Go.Maps

set_option maxHeartbeats 2000000 in
set_option maxRecDepth 100000 in
theorem refCheck_any {p : Nat → Prop} (T : List (List UInt8)) (v : Value) (w : World) (hR : TxR p w v T) :
    Calls Tryd.prog 17 #[v] w fun e w' => e = .returned (zV (chkF T)) ∧ Fresh w w' := by
  obtain ⟨ao, cap, rfl⟩ := hR.shape
  have HR : Hid (∀ W, Fresh w W → TxR p W (.slice ao T.length cap) T) := fun W hk => hR.fresh hk
  have HE : Hid (∀ i, i < T.length → (tX T i).length ≤ 1048576) := hR.each
  have h20 := hR.len
  clear hR
  by_cases h16 : 16 < T.length
  · have hE : Hid (chkF T = 141) := by show _ = _; unfold chkF; rw [if_pos h16]
    have h16' : (16 : Int) < (T.length : Int) := by omega
    clear HR HE
    generalize chkF T = R at *
    generalize T.length = n at *
    go_enter Tryd.func17, Tryd.ntmps17
    go_wp2
    go_ret
    exact ⟨by rw [hE.out]; rfl, Kept.refl _ _⟩
  have h16' : ¬ (16 : Int) < (T.length : Int) := by omega
  have HN : Hid ((∀ j, j < T.length → badB (tX T j) = false) → chkF T = 0) := fun h => by unfold chkF bad1; rw [if_neg h16, f1st_none.2 h]; rfl
  have HS : Hid (∀ i, i < T.length → badB (tX T i) = true → (∀ j, j < i → badB (tX T j) = false) → chkF T = 140) := fun i hi h hj => by unfold chkF bad1; rw [if_neg h16, f1st_of hi h hj]; rfl
  generalize chkF T = R at *
  generalize T.length = n at *
  go_enter Tryd.func17, Tryd.ntmps17
  go_wp2
  go_loopw [10] (fun iv wr => ∃ i : Nat, i ≤ n ∧ iv = zV i ∧ Hid (Fresh w wr) ∧ Hid (∀ j, j < i → badB (tX T j) = false)) (fun iv _ => n - (RowKit.intOf iv).toNat)
  case atStart => exact ⟨0, Nat.zero_le _, rfl, Kept.refl _ _, fun j hj => absurd hj (Nat.not_lt_zero _)⟩
  case round =>
    obtain ⟨i, hi, rfl, HF, HQ⟩ := hrel
    by_cases hlt : i < n
    · have hlt' : (i : Int) < (n : Int) := by omega
      obtain ⟨b, off, rfl, _, hbl, hcell⟩ := (HR.out wr HF.out).cells.2.2 (by omega)
      have c0 := hcell i hlt
      clear hcell
      have HSi : Hid (badB (tX T i) = true → R = 140) := fun h => HS.out i hlt h HQ.out
      have HQi : Hid (badB (tX T i) = false → ∀ j, j < i + 1 → badB (tX T j) = false) := fun h j hj => by
        by_cases e : j = i
        · rw [e]; exact h
        · exact HQ.out j (by omega)
      have hxl := HE.out i hlt
      have HC := show Hid _ from refClean_any (tX T i) wr (by omega)
      have hsz : (⟨(tX T i).toArray⟩ : ByteArray).size = (tX T i).length := len_l _
      clear HS HQ
      generalize tX T i = x at *
      by_cases h0 : x = []
      · subst h0
        have hR : Hid (R = 140) := HSi.out rfl
        clear HC HSi HQi
        go_wp2
        go_ret
        exact ⟨by rw [hR.out]; rfl, HF.out⟩
      have hE := emp_false h0
      by_cases h64 : 64 < x.length
      · have hR : Hid (R = 140) := HSi.out (by unfold badB; rw [decide_eq_true h64]; simp)
        have h64' : (64 : Int) < (x.length : Int) := by omega
        have h64d : decide ((64 : Int) < (x.length : Int)) = true := decide_eq_true h64'
        clear HC HSi HQi
        go_wp2
        go_ret
        exact ⟨by rw [hR.out]; rfl, HF.out⟩
      have h64d : decide ((64 : Int) < (x.length : Int)) = false := decide_eq_false (by omega)
      have hbad : Hid (badB x = !decide (clL x = x)) := by show _ = _; unfold badB; rw [hE, decide_eq_false h64]; simp
      by_cases hc : clL x = x
      · have hq : badB x = false := by rw [hbad.out, decide_eq_true hc]; rfl
        have HQ2 := show Hid _ from HQi.out hq
        rw [hc] at HC
        clear HSi HQi hbad hc hq
        go_wp2_with fail
        refine Calls.mono HC.out ?_
        rintro e' W1 ⟨rfl, hF1⟩
        have HF1 : Hid (Fresh w W1) := HF.out.trans hF1 (fun _ _ e => e)
        clear HC hF1 HF
        go_wp2
        go_roundw
        case rel => exact ⟨i + 1, by omega, by go_num, HF1, HQ2⟩
        case measure => simp [RowKit.intOf]; omega
      · have hq : badB x = true := by rw [hbad.out, decide_eq_false hc]; rfl
        have hR : Hid (R = 140) := HSi.out hq
        have hcmp : (clL x == x) = false := beq_eq_false_iff_ne.2 hc
        clear HSi HQi hbad hc hq
        generalize clL x = y at *
        go_wp2_with fail
        refine Calls.mono HC.out ?_
        rintro e' W1 ⟨rfl, hF1⟩
        have HF1 : Hid (Fresh w W1) := HF.out.trans hF1 (fun _ _ e => e)
        clear HC hF1 HF
        go_wp2
        go_ret
        exact ⟨by rw [hR.out]; rfl, HF1.out⟩
    · have hlt' : ¬ (i : Int) < (n : Int) := by omega
      have hin : i = n := by omega
      subst hin
      have hRf : Hid (R = 0) := HN.out HQ.out
      clear HS HN HQ
      go_wp2
      go_ret
      exact ⟨by rw [hRf.out]; rfl, HF.out⟩

theorem ends_en {t x : List UInt8} {n : Nat} (hn : n ≤ t.length) : En t x n ↔ (x.length ≤ (t.take n).length ∧ (t.take n).drop ((t.take n).length - x.length) = x) := by
  have hl : (t.take n).length = n := by rw [List.length_take]; omega
  rw [hl]
  unfold En
  refine and_congr_right fun hx => ?_
  rw [List.drop_take, show n - (n - x.length) = x.length by omega]
def enB (s x : List UInt8) : Bool := decide (x.length ≤ s.length ∧ s.drop (s.length - x.length) = x)
set_option maxHeartbeats 1000000 in
set_option maxRecDepth 100000 in
theorem refEnds_any (s x : List UInt8) (w : World) (hs : s.length ≤ 1099511627776) (hx : x.length ≤ 1099511627776) :
    Calls Tryd.prog 39 #[sV s, sV x] w fun e w' => e = .returned (.bool (enB s x)) ∧ w' = w := by
  have hsz : (⟨s.toArray⟩ : ByteArray).size = s.length := len_l _
  have hsx : (⟨x.toArray⟩ : ByteArray).size = x.length := len_l _
  by_cases hle : x.length ≤ s.length
  · have hd : decide ((x.length : Int) ≤ (s.length : Int)) = true := decide_eq_true (by omega)
    have hsl : ∀ w, (Instr.slice 9 (sV s) (some (.int .i64 ((s.length : Int) - (x.length : Int)))) none none).run Tryd.prog w = .ok (sV (s.drop (s.length - x.length))) w := fun w => by
      rw [show (s.length : Int) - (x.length : Int) = ((s.length - x.length : Nat) : Int) by omega]
      exact slice_from s _ (by omega) w
    have hb : Hid (enB s x = (s.drop (s.length - x.length) == x)) := by
      show _ = _
      unfold enB
      rw [Bool.eq_iff_iff, decide_eq_true_iff, beq_iff_eq]
      exact ⟨fun e => e.2, fun e => ⟨hle, e⟩⟩
    generalize s.drop (s.length - x.length) = y at *
    go_enter Tryd.func39, Tryd.ntmps39
    go_wp2
    go_ret
    exact ⟨by rw [hb.out]; simp, rfl⟩
  · have hd : decide ((x.length : Int) ≤ (s.length : Int)) = false := decide_eq_false (by omega)
    have hb : Hid (enB s x = false) := decide_eq_false (fun e => hle e.1)
    go_enter Tryd.func39, Tryd.ntmps39
    go_wp2
    go_ret
    exact ⟨by rw [hb.out]; simp, rfl⟩
end Go.Proofs.YtomeoklhjdgaoaaDoor
