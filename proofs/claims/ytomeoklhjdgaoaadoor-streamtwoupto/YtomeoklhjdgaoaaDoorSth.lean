/-
  Feed, End, Held, Stopped, Text.
-/
import Derived.Test.YtomeoklhjdgaoaaDoorStg
namespace Go.Proofs.YtomeoklhjdgaoaaDoor
open Go.RowKit Go.Lib Go.Maps

variable {F : Nat → Prop} {w w' : World} {b : Nat} {T : List (List UInt8)} {out held : List UInt8} {en mt : Bool} {met : Int} {sv ov : Value}
set_option maxHeartbeats 1000000 in
set_option maxRecDepth 100000 in
theorem Feed_ended (piece : List UInt8) (h : StM F w b T out held true mt met) :
    Calls Tryd.prog 20 #[.pointer (some ⟨b, 0, none⟩), sV piece] w fun e w' => e = .returned (sV []) ∧ w' = w := by
  obtain ⟨sv, ov, h⟩ := h
  obtain ⟨c0, c1, c2, c3, c4, c5⟩ := h.cell
  clear h
  go_enter Tryd.func20, Tryd.ntmps20
  go_wp2
  go_ret
  exact ⟨rfl, rfl⟩
set_option maxHeartbeats 1000000 in
set_option maxRecDepth 100000 in
theorem End_ended (h : StM F w b T out held true mt met) :
    Calls Tryd.prog 23 #[.pointer (some ⟨b, 0, none⟩)] w fun e w' => e = .returned (sV []) ∧ w' = w := by
  obtain ⟨sv, ov, h⟩ := h
  obtain ⟨c0, c1, c2, c3, c4, c5⟩ := h.cell
  clear h
  go_enter Tryd.func23, Tryd.ntmps23
  go_wp2
  go_ret
  exact ⟨rfl, rfl⟩
set_option maxHeartbeats 1000000 in
set_option maxRecDepth 100000 in
theorem End_live (h : StM F w b T out held false mt met) (hl : held.length ≤ 16777216) (ho : out.length ≤ 900000000000) :
    Calls Tryd.prog 23 #[.pointer (some ⟨b, 0, none⟩)] w fun e w' => e = .returned (sV (clL held)) ∧ ∃ F', StM F' w' b T (out ++ clL held) [] true mt met ∧ Mvd F w F' w' := by
  have HC := show Hid _ from endWith_any held h hl ho
  obtain ⟨sv, ov, h⟩ := h
  obtain ⟨c0, c1, c2, c3, c4, c5⟩ := h.cell
  clear h
  generalize clL held = C at *
  go_enter Tryd.func23, Tryd.ntmps23
  go_wp2_with fail
  refine Calls.mono HC.out ?_
  rintro e' W1 ⟨rfl, hh⟩
  have HEnd : Hid _ := hh
  clear HC hh
  go_wp2
  go_ret
  exact ⟨rfl, HEnd.out⟩
set_option maxHeartbeats 1000000 in
set_option maxRecDepth 100000 in
theorem Held_any (h : StM F w b T out held en mt met) :
    Calls Tryd.prog 21 #[.pointer (some ⟨b, 0, none⟩)] w fun e w' => e = .returned (sV held) ∧ w' = w := by
  obtain ⟨sv, ov, h⟩ := h
  obtain ⟨c0, c1, c2, c3, c4, c5⟩ := h.cell
  clear h
  go_enter Tryd.func21, Tryd.ntmps21
  go_wp2
  go_ret
  exact ⟨rfl, rfl⟩
set_option maxHeartbeats 1000000 in
set_option maxRecDepth 100000 in
theorem Stopped_any (h : StM F w b T out held en mt met) :
    Calls Tryd.prog 22 #[.pointer (some ⟨b, 0, none⟩)] w fun e w' => e = .returned (.tuple #[zV met, .bool mt]) ∧ Fresh w w' := by
  obtain ⟨sv, ov, h⟩ := h
  obtain ⟨c0, c1, c2, c3, c4, c5⟩ := h.cell
  clear h
  go_enter Tryd.func22, Tryd.ntmps22
  go_wp2
  go_quiet (fail)
  go_wp2
  go_ret2
  exact ⟨rfl, (Kept.refl _ _).drewN _⟩
theorem text_conv {w : World} {ao : Option Addr} {cp : Nat} {out : List UInt8} (h : w.ownsRow 0 5 1 (.slice ao out.length cp) out.length (bytesV out)) : (convert 55 9 (.slice ao out.length cp)).run Tryd.prog w = .ok (sV out) w := by
  rcases h.2 with ⟨h2, h0⟩ | ⟨g, cap, cur, hv, _, hh, hnc, hcm, hcs, htk⟩
  · injection h2 with e1 e2 e3
    have : out = [] := List.length_eq_zero_iff.1 h0
    subst this
    subst e1
    exact run_convert_bytes_nil w _ _ Tryd.underlying55 Tryd.underlying5 _ _ _ Tryd.underlying9
  · rw [hv]
    exact run_convert_bytes_back w _ _ 5 _ cap out Tryd.underlying55 Tryd.underlying5 Tryd.underlying9 (Lib.bytes_of_row hh (by rw [Nat.mul_one] at htk; exact htk))
set_option maxHeartbeats 1000000 in
set_option maxRecDepth 100000 in
theorem Text_any (h : StM F w b T out held en mt met) :
    Calls Tryd.prog 15 #[.pointer (some ⟨b, 0, none⟩)] w fun e w' => e = .returned (sV out) ∧ w' = w := by
  obtain ⟨sv, ov, h⟩ := h
  obtain ⟨c0, c1, c2, c3, c4, c5⟩ := h.cell
  have ho := h.own
  obtain ⟨ao, cp, rfl⟩ := ownsRow_shape h.own
  have hc := text_conv ho
  clear h ho
  go_enter Tryd.func15, Tryd.ntmps15
  go_wp2
  go_ret
  exact ⟨rfl, rfl⟩
set_option maxHeartbeats 4000000 in
set_option maxRecDepth 100000 in
theorem Feed_live (piece : List UInt8) (h : StM F w b T out held false false 0) (hl : (held ++ piece).length ≤ 16777216) (ho : out.length ≤ 900000000000) (hT : GdT T) (hm : TbM w) :
    Calls Tryd.prog 20 #[.pointer (some ⟨b, 0, none⟩), sV piece] w fun e w' =>
      (cuM T (held ++ piece) ≠ -1 → e = .returned (sV (clL (cuS T (held ++ piece)))) ∧ ∃ F', StM F' w' b T (out ++ clL (cuS T (held ++ piece))) [] true true (cuM T (held ++ piece)) ∧ Mvd F w F' w') ∧
      (cuM T (held ++ piece) = -1 → e = .returned (sV (clL (goF T (held ++ piece)))) ∧ ∃ F', StM F' w' b T (out ++ clL (goF T (held ++ piece))) (hldF T (held ++ piece)) false false 0 ∧ Mvd F w F' w') := by
  have hl1 : held.length + piece.length ≤ 16777216 := by rw [← List.length_append]; exact hl
  have hcat : (⟨held.toArray⟩ : ByteArray) ++ ⟨piece.toArray⟩ = ⟨(held ++ piece).toArray⟩ := cat_l held piece
  have hsz1 : (⟨held.toArray⟩ : ByteArray).size = held.length := len_l _
  have hsz2 : (⟨piece.toArray⟩ : ByteArray).size = piece.length := len_l _
  obtain ⟨sv, ov, h⟩ := h
  have HS : Hid (StAt F w b T out held false false 0 sv ov) := h
  have h3 := h.f3
  have hR := h.txr
  obtain ⟨c0, c1, c2, c3, c4, c5⟩ := h.cell
  generalize held ++ piece = l at *
  have HFs := show Hid _ from firstStop_any T l sv w hl hR hT.ne hm
  have HHb : Hid (∀ W, Fresh w W → NoCut T l → Calls Tryd.prog 45 #[sv, sV l] W fun e w' => e = .returned (sV (hldF T l)) ∧ Fresh W w') := fun W hk hN => heldBack_any T l sv W hl (hR.fresh hk) hT hN (hm.fresh hk)
  have hsl : (⟨l.toArray⟩ : ByteArray).size = l.length := len_l l
  have HSl : Hid (∀ fr, fr ≤ l.length → ∀ w, (Instr.slice 9 (sV l) none (some (.int .i64 (fr : Int))) none).run Tryd.prog w = .ok (sV (l.take fr)) w) := fun fr hfr w => by
    rw [run_slice_string_h (ht := Tryd.underlying9) (kh := .i64) (h := (fr : Int)) (h0 := by omega) (h2 := by rw [len_l]; omega), Int.toNat_natCast, ext_l, List.drop_zero]
  have HGo : Hid (goF T l = l.take (l.length - (hldF T l).length) ∧ (hldF T l).length ≤ l.length) := ⟨rfl, hldF_le T l⟩
  have hsv : ∃ ao n cap, sv = .slice ao n cap := by obtain ⟨ao, cap, e⟩ := hR.shape; exact ⟨ao, _, cap, e⟩
  obtain ⟨ao, sn, scap, rfl⟩ := hsv
  clear h hR hm hT
  generalize cuM T l = M at *
  generalize cuS T l = D at *
  generalize goF T l = G at *
  generalize hldF T l = H at *
  have HG2 : Hid (∀ w, (Instr.slice 9 (sV l) none (some (.int .i64 ((l.length : Int) - (H.length : Int)))) none).run Tryd.prog w = .ok (sV G) w) := fun w => by
    rw [HGo.out.1, ← HSl.out (l.length - H.length) (by omega) w]
    have := HGo.out.2
    rw [show ((l.length - H.length : Nat) : Int) = (l.length : Int) - (H.length : Int) by omega]
  have hHl := HGo.out.2
  have hGl : G.length ≤ 16777216 := by rw [HGo.out.1, List.length_take]; omega
  clear HGo
  go_enter Tryd.func20, Tryd.ntmps20
  go_wp2_with fail
  refine Calls.mono HFs.out ?_
  rintro e' W1 ⟨⟨fr, rfl, hfr, hno, hyes⟩, hF1⟩
  have HF1 : Hid (Fresh w W1) := hF1
  have HNo : Hid (M = -1 → NoCut T l) := hno
  have HYes : Hid (M ≠ -1 → l.take fr = D) := hyes
  have HS1 : Hid (StAt F W1 b T out held false false 0 (.slice ao sn scap) ov) := HS.out.fresh hF1
  obtain ⟨d0, d1, d2, d3, d4, d5⟩ := HS1.out.cell
  have f2 := HS1.out.free 2
  have f4 := HS1.out.free 4
  have f5 := HS1.out.free 5
  clear HFs hF1 hno hyes c0 c1 c2 c3 c4 c5 HS hcat hsz1 hsz2
  by_cases hM : M = -1
  · have HC := show Hid _ from HHb.out W1 HF1.out (HNo.out hM)
    have hG := HG2.out
    have hM' : Hid (M = -1) := hM
    subst hM
    clear HHb HNo HYes HSl hM' f4 f5
    go_wp2_with fail
    refine Calls.mono HC.out ?_
    rintro e' W2 ⟨rfl, hF2⟩
    have HS2 : Hid (StAt F W2 b T out held false false 0 (.slice ao sn scap) ov) := HS1.out.fresh hF2
    have hS3 := HS2.out.setHeld H
    have hm3 : Mvd F w F (W2.setCell ⟨b, 2, none⟩ (sV H)) := (Mvd.fresh (HF1.out.trans hF2 (fun _ _ e => e))).trans (Mvd.store HS2.out.fb 2 _)
    have HE := show Hid _ from letOut_any G ⟨_, _, hS3⟩ hGl ho
    have HM3 : Hid (Mvd F w F (W2.setCell ⟨b, 2, none⟩ (sV H))) := hm3
    obtain ⟨c0, c1, c2, c3, c4, c5⟩ := HS2.out.cell
    have f2' := HS2.out.free 2
    have hHs : (⟨H.toArray⟩ : ByteArray).size = H.length := len_l H
    clear HC hF2 HS1 HF1 hS3 hm3 HS2 d0 d1 d2 d3 d4 d5 f2
    go_wp2_with fail
    refine Calls.mono HE.out ?_
    rintro e' W3 ⟨rfl, F', g1, g2⟩
    have HEnd : Hid (∃ F', StM F' W3 b T (out ++ clL G) H false false 0 ∧ Mvd F w F' W3) := ⟨F', g1, Mvd.trans HM3.out g2⟩
    clear HE HM3 g1 g2
    go_wp2
    go_ret
    exact ⟨rfl, HEnd.out⟩
  · have hMb : (M == -1) = false := beq_eq_false_iff_ne.2 hM
    have hS2 := (HS1.out.setAt M).setMet true
    have hm2 : Mvd F w F ((W1.setCell ⟨b, 5, none⟩ (zV M)).setCell ⟨b, 4, none⟩ (.bool true)) := (Mvd.fresh HF1.out).trans ((Mvd.store HS1.out.fb 5 _).trans (Mvd.store HS1.out.fb 4 _))
    have hcu := HYes.out hM
    have hsl2 := HSl.out fr hfr
    rw [hcu] at hsl2
    have hDl : D.length ≤ 16777216 := by rw [← hcu, List.length_take]; omega
    have HE := show Hid _ from endWith_any D ⟨_, _, hS2⟩ hDl ho
    have HM2 : Hid (Mvd F w F ((W1.setCell ⟨b, 5, none⟩ (zV M)).setCell ⟨b, 4, none⟩ (.bool true))) := hm2
    have hM' : Hid (M ≠ -1) := hM
    clear HS1 HF1 hS2 hm2 HNo HYes HHb HSl hcu hM
    go_wp2_with fail
    refine Calls.mono HE.out ?_
    rintro e' W2 ⟨rfl, F', g1, g2⟩
    have HEnd : Hid (∃ F', StM F' W2 b T (out ++ clL D) [] true true M ∧ Mvd F w F' W2) := ⟨F', g1, Mvd.trans HM2.out g2⟩
    clear HE HM2 g1 g2
    go_wp2
    go_ret
    exact ⟨fun _ => ⟨rfl, HEnd.out⟩, fun e => absurd e hM'.out⟩
end Go.Proofs.YtomeoklhjdgaoaaDoor
