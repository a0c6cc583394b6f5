/-
  Whole.
-/
import Derived.Test.YtomeoklhjdgaoaaDoorStj
namespace Go.Proofs.YtomeoklhjdgaoaaDoor
open Go.RowKit Go.Lib Go.Maps

theorem cuM_ge (T : List (List UInt8)) (l : List UInt8) : -1 ≤ cuM T l := by
  unfold cuM
  split <;> omega
theorem cuM_none {T : List (List UInt8)} {l : List UInt8} (h : cuM T l = -1) : cuS T l = l := by
  unfold cuM at h
  split at h
  · rename_i e; unfold cuS; rw [e]
  · omega
/-- What Whole answers. -/
def whO (T : List (List UInt8)) (l : List UInt8) : List UInt8 := if chkF T = 0 then clL (cuS T l) else []
def whP (T : List (List UInt8)) (l : List UInt8) : Int := if chkF T = 0 then cuM T l else 0
theorem cuS_le (T : List (List UInt8)) (l : List UInt8) : (cuS T l).length ≤ l.length := by
  unfold cuS
  split
  · exact Nat.le_refl _
  · rw [List.length_take]; omega
set_option maxHeartbeats 4000000 in
set_option maxRecDepth 100000 in
theorem Whole_any {p : Nat → Prop} (T : List (List UInt8)) (l : List UInt8) (v : Value) (w : World) (hl : l.length ≤ 16777216) (hR : TxR p w v T) (hm : TbM w) :
    Calls Tryd.prog 16 #[v, sV l] w fun e w' => e = .returned (.tuple #[sV (whO T l), zV (whP T l), zV (chkF T)]) ∧ Fresh w w' := by
  have HN := show Hid _ from New_any T v w hR hm
  have HT : Hid (∀ W, Fresh w W → TbM W) := fun W hk => hm.fresh hk
  have HB : Hid (chkF T ≠ 0 → whO T l = [] ∧ whP T l = 0) := fun h => ⟨by unfold whO; rw [if_neg h], by unfold whP; rw [if_neg h]⟩
  have HG : Hid (chkF T = 0 → whO T l = clL (cuS T l) ∧ whP T l = cuM T l ∧ GdT T) := fun h => ⟨by unfold whO; rw [if_pos h], by unfold whP; rw [if_pos h], (chk_ok h).2⟩
  obtain ⟨ao, cap, rfl⟩ := hR.shape
  clear hR hm
  generalize whO T l = O at *
  generalize whP T l = P at *
  obtain ⟨tn, hTn⟩ : ∃ tn, tn = T.length := ⟨_, rfl⟩
  rw [← hTn] at HN ⊢
  clear hTn
  by_cases hc : chkF T = 0
  · obtain ⟨g1, g2, hGT⟩ := HG.out hc
    have HO : Hid (O = clL (cuS T l) ∧ P = cuM T l) := ⟨g1, g2⟩
    have HGT : Hid (GdT T) := hGT
    have hC' : Hid (chkF T = 0) := hc
    rw [hc]
    clear HB HG g1 g2 hGT hc
    go_enter Tryd.func16, Tryd.ntmps16
    go_wp2_with fail
    refine Calls.mono HN.out ?_
    rintro e' W1 ⟨hF1, h | ⟨_, b, F, rfl, hS, hNw, _⟩⟩
    · exact absurd hC'.out h.1
    have HF1 : Hid (Fresh w W1) := hF1
    have HNw : Hid (Nw0 w F) := hNw
    have HC1 := show Hid _ from Feed_live l hS (by simpa using hl) (by simp) HGT.out (HT.out W1 hF1)
    clear HN hF1 hS hNw
    go_wp2_with fail
    refine Calls.mono HC1.out ?_
    rintro e' W2 ⟨hy, hn⟩
    rw [List.nil_append] at hy hn
    by_cases hM : cuM T l = -1
    · obtain ⟨rfl, F2, hS2, hM2⟩ := hn hM
      obtain ⟨hF2, hN2⟩ := mvd_fresh HF1.out HNw.out hM2
      have hcl := cl_end HGT.out l
      have hge := clL_le (goF T l)
      have hgl : (goF T l).length ≤ l.length := by unfold goF; rw [List.length_take]; omega
      have hhl := hldF_le T l
      have HC2 := show Hid _ from End_live hS2 (by omega) (by simp; omega)
      have HFin : Hid ((([] : List UInt8) ++ clL (goF T l)) ++ clL (hldF T l) = O ∧ P = -1) := ⟨by rw [List.nil_append, ← hcl, HO.out.1, cuM_none hM], by rw [HO.out.2, hM]⟩
      have HF2 : Hid (Fresh w W2) := hF2
      have HN2 : Hid (Nw0 w F2) := hN2
      clear HC1 hy hn hS2 hM2 hF2 hN2 HF1 HNw hcl hge hgl hhl HO
      rw [HFin.out.1] at HC2
      go_wp2_with fail
      refine Calls.mono HC2.out ?_
      rintro e' W3 ⟨rfl, F3, hS3, hM3⟩
      obtain ⟨hF3, hN3⟩ := mvd_fresh HF2.out HN2.out hM3
      have HF3 : Hid (Fresh w W3) := hF3
      have HS3 : Hid (StM F3 W3 b T O [] true false 0) := hS3
      have HC3 := show Hid _ from Stopped_any hS3
      clear HC2 hM3 hF3 hN3 hS3 HF2 HN2
      go_wp2_with fail
      refine Calls.mono HC3.out ?_
      rintro e' W4 ⟨rfl, hF4⟩
      have HF4 : Hid (Fresh w W4) := HF3.out.trans hF4 (fun _ _ e => e)
      have HC4 := show Hid _ from Text_any (HS3.out.fresh hF4)
      have HP : Hid (P = -1) := HFin.out.2
      clear HC3 hF4 HF3 HS3 HFin hM
      go_wp2_with fail
      refine Calls.mono HC4.out ?_
      rintro e' W5 ⟨rfl, hW⟩
      have hW' := hW.symm
      subst hW'
      clear HC4 hW
      go_wp2
      go_ret3
      exact ⟨by rw [HP.out]; rfl, HF4.out⟩
    · obtain ⟨rfl, F2, hS2, hM2⟩ := hy hM
      obtain ⟨hF2, hN2⟩ := mvd_fresh HF1.out HNw.out hM2
      rw [List.nil_append, ← HO.out.1, ← HO.out.2] at hS2
      have HC2 := show Hid _ from End_ended hS2
      have HS2 : Hid (StM F2 W2 b T O [] true true P) := hS2
      have HF2 : Hid (Fresh w W2) := hF2
      clear HC1 hy hn hS2 hM2 hF2 hN2 HF1 HNw HO hM
      go_wp2_with fail
      refine Calls.mono HC2.out ?_
      rintro e' W3 ⟨rfl, hW⟩
      have hW' := hW.symm
      subst hW'
      have HC3 := show Hid _ from Stopped_any HS2.out
      clear HC2 hW
      go_wp2_with fail
      refine Calls.mono HC3.out ?_
      rintro e' W4 ⟨rfl, hF4⟩
      have HF4 : Hid (Fresh w W4) := HF2.out.trans hF4 (fun _ _ e => e)
      have HC4 := show Hid _ from Text_any (HS2.out.fresh hF4)
      clear HC3 hF4 HF2 HS2
      go_wp2_with fail
      refine Calls.mono HC4.out ?_
      rintro e' W5 ⟨rfl, hW⟩
      have hW' := hW.symm
      subst hW'
      clear HC4 hW
      go_wp2
      go_ret3
      exact ⟨rfl, HF4.out⟩
  · obtain ⟨g1, g2⟩ := HB.out hc
    have HO : Hid (O = [] ∧ P = 0) := ⟨g1, g2⟩
    have hcb : (chkF T == 0) = false := beq_eq_false_iff_ne.2 hc
    have hC' : Hid (chkF T ≠ 0) := hc
    clear HB HG g1 g2 hc
    go_enter Tryd.func16, Tryd.ntmps16
    go_wp2_with fail
    refine Calls.mono HN.out ?_
    rintro e' W1 ⟨hF1, ⟨_, rfl⟩ | ⟨h, _⟩⟩
    · have HF1 : Hid (Fresh w W1) := hF1
      clear HN hF1
      go_wp2
      go_ret3
      exact ⟨by rw [HO.out.1, HO.out.2]; rfl, HF1.out⟩
    · exact absurd h hC'.out
end Go.Proofs.YtomeoklhjdgaoaaDoor
