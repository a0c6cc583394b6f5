/-
  heldBack.
-/
import Derived.Test.YtomeoklhjdgaoaaDoorStd
namespace Go.Proofs.YtomeoklhjdgaoaaDoor
open Go.RowKit Go.Lib Go.Maps

def strSz (v : Value) : Nat := match v with
  | .string s => s.size
  | _ => 0
theorem strSz_l (l : List UInt8) : strSz (sV l) = l.length := len_l l
theorem ext_drop (l : List UInt8) (k : Nat) : (⟨l.toArray⟩ : ByteArray).extract k l.length = ⟨(l.drop k).toArray⟩ := by rw [ext_l, List.take_length]
set_option maxHeartbeats 4000000 in
set_option maxRecDepth 100000 in
theorem heldBack_any {p : Nat → Prop} (T : List (List UInt8)) (l : List UInt8) (v : Value) (w : World) (hl : l.length ≤ 16777216) (hR : TxR p w v T) (hT : GdT T) (hN : NoCut T l) (hm : TbM w) :
    Calls Tryd.prog 45 #[v, sV l] w fun e w' => e = .returned (sV (hldF T l)) ∧ Fresh w w' := by
  have HR : Hid (TxR p w v T) := hR
  have HTb : Hid (TbM w) := hm
  obtain ⟨k0, hk0, hk0l⟩ : ∃ k0 : Nat, k0 = l.length - 63 ∧ k0 ≤ l.length := ⟨_, rfl, by omega⟩
  have HE : Hid (∀ k, k ≤ l.length → (∀ j, j < k → cnd T (l.drop j) = false) → (k = l.length ∨ cnd T (l.drop k) = true) → hldF T l = l.drop k) := fun k h1 h2 h3 => hldF_at l k h1 h2 h3
  have H3 : Hid (∀ k, cnd T (l.drop k) = (!(l.drop k).isEmpty && (hfL (l.drop k) || bgB T (l.drop k) T.length))) := fun k => cnd_three hN k
  have HQ0 : Hid (∀ j, j < k0 → cnd T (l.drop j) = false) := fun j hj => by
    cases e : cnd T (l.drop j) with
    | false => rfl
    | true =>
      have := cnd_len hT e
      rw [List.length_drop] at this
      omega
  have HX : Hid (∀ w, (Instr.slice 9 (sV l) (some (.int .i64 (k0 : Int))) none none).run Tryd.prog w = .ok (sV (l.drop k0)) w) := fun w => by
    rw [run_slice_string_l (ht := Tryd.underlying9) (kl := .i64) (l := (k0 : Int)) (h0 := by omega) (h1 := by rw [len_l]; omega), Int.toNat_natCast, len_l, ext_drop]
  have HD : Hid (∀ k, k < l.length → ∀ w, (Instr.slice 9 (sV (l.drop k)) (some (.int .i64 1)) none none).run Tryd.prog w = .ok (sV (l.drop (k + 1))) w) := fun k hk w => by
    have hlen : (l.drop k).length = l.length - k := List.length_drop
    rw [run_slice_string_l (ht := Tryd.underlying9) (kl := .i64) (l := 1) (h0 := by omega) (h1 := by rw [len_l]; omega), len_l]
    show Result.ok (Value.string ((⟨(l.drop k).toArray⟩ : ByteArray).extract 1 (l.drop k).length)) w = _
    rw [ext_drop, List.drop_drop]
  have HEm : Hid (∀ k, k < l.length → (l.drop k).isEmpty = false) := fun k hk => by
    cases h : l.drop k with
    | nil => have := congrArg List.length h; rw [List.length_drop] at this; simp at this; omega
    | cons _ _ => rfl
  have HNil : Hid (l.drop l.length = []) := List.drop_length
  have HB : Hid (∀ k W, Fresh w W → Calls Tryd.prog 57 #[v, sV (l.drop k)] W fun e w' => e = .returned (.bool (bgB T (l.drop k) T.length)) ∧ w' = W) := fun k W hk => beginsStop_any T (l.drop k) v W (hR.fresh hk)
  have HHf : Hid (∀ k W, Fresh w W → Calls Tryd.prog 56 #[sV (l.drop k)] W fun e w' => e = .returned (.bool (hfL (l.drop k))) ∧ Fresh W w') := fun k W hk => isHalf_any (l.drop k) W (by unfold maxLen; rw [List.length_drop]; omega) (hm.fresh hk)
  have HC : Hid (∀ k W, Calls Tryd.prog 58 #[sV (l.drop k)] W fun e w' => e = .returned (sV (l.drop k)) ∧ Fresh W w') := fun k W => strClone_any (l.drop k) W (by rw [List.length_drop]; omega)
  have hmax : max (0 : Int) ((l.length : Int) - 64 + 1) = (k0 : Int) := by omega
  have HX2 : Hid (Value.string ((⟨l.toArray⟩ : ByteArray).extract (max (0 : Int) ((l.length : Int) - 64 + 1)).toNat l.length) = sV (l.drop k0)) := by show _ = _; rw [hmax, Int.toNat_natCast, ext_drop]
  have hll : (⟨l.toArray⟩ : ByteArray).size = l.length := len_l l
  clear hR hm hN hT
  generalize hldF T l = R at *
  obtain ⟨ln, hln⟩ : ∃ ln, ln = l.length := ⟨_, rfl⟩
  rw [← hln] at hl hk0 hk0l HE HD HEm HNil hmax hll
  go_enter Tryd.func45, Tryd.ntmps45
  have hX := HX.out
  go_wp2
  go_loopw [5] (fun ev wr => ∃ k : Nat, k ≤ ln ∧ ev = sV (l.drop k) ∧ Hid (Fresh w wr) ∧ Hid (∀ j, j < k → cnd T (l.drop j) = false)) (fun ev _ => strSz ev)
  case atStart => exact ⟨k0, hk0l, HX2.out, Kept.refl _ _, HQ0⟩
  case round =>
    obtain ⟨k, hk, rfl, HF, HQ⟩ := hrel
    clear HQ0 hX HX HX2 hmax hk0 hk0l
    by_cases hlt : k < ln
    · have hE := HEm.out k hlt
      have HCf := show Hid _ from HHf.out k wr HF.out
      have h3 := H3.out k
      rw [hE, Bool.not_false, Bool.true_and] at h3
      have h3' : Hid (cnd T (l.drop k) = (hfL (l.drop k) || bgB T (l.drop k) T.length)) := h3
      have hSl := HD.out k hlt
      have hszk : Hid (strSz (sV (l.drop (k + 1))) < strSz (sV (l.drop k))) := by show _ < _; rw [strSz_l, strSz_l, List.length_drop, List.length_drop]; omega
      have HRes : Hid (cnd T (l.drop k) = true → R = l.drop k) := fun h => HE.out k hk HQ.out (.inr h)
      have HNx : Hid (cnd T (l.drop k) = false → ∀ j, j < k + 1 → cnd T (l.drop j) = false) := fun h j hj => by
        by_cases e : j = k
        · rw [e]; exact h
        · exact HQ.out j (by omega)
      have HBk : Hid (∀ W, Fresh w W → Calls Tryd.prog 57 #[v, sV (l.drop k)] W fun e w' => e = .returned (.bool (bgB T (l.drop k) T.length)) ∧ w' = W) := fun W h => HB.out k W h
      have HCk : Hid (∀ W, Calls Tryd.prog 58 #[sV (l.drop k)] W fun e w' => e = .returned (sV (l.drop k)) ∧ Fresh W w') := fun W => HC.out k W
      clear h3 H3 HE HD HEm HHf HB HC HQ
      generalize hEk : l.drop k = E at *
      generalize hEk1 : l.drop (k + 1) = E1 at *
      have hEk2 : Hid (l.drop k = E) := hEk
      have hEk3 : Hid (l.drop (k + 1) = E1) := hEk1
      clear hEk hEk1
      generalize cnd T E = cc at *
      generalize bgB T E T.length = bb at *
      generalize hfL E = hh at *
      go_wp2_with fail
      refine Calls.mono HCf.out ?_
      rintro e' W1 ⟨rfl, hF1⟩
      have HF1 : Hid (Fresh w W1) := HF.out.trans hF1 (fun _ _ e => e)
      clear HCf hF1 HF
      cases hh with
      | true =>
        have hR : Hid (R = E) := HRes.out (by rw [h3'.out]; rfl)
        have HCl := show Hid _ from HCk.out W1
        clear HRes HNx HBk HCk
        go_wp2_with fail
        refine Calls.mono HCl.out ?_
        rintro e' W2 ⟨rfl, hF2⟩
        have HF2 : Hid (Fresh w W2) := HF1.out.trans hF2 (fun _ _ e => e)
        clear HCl hF2 HF1
        go_wp2
        go_ret
        exact ⟨by rw [hR.out]; rfl, HF2.out⟩
      | false =>
        have HCb := show Hid _ from HBk.out W1 HF1.out
        clear HBk
        go_wp2_with fail
        refine Calls.mono HCb.out ?_
        rintro e' W2 ⟨rfl, hW⟩
        have hW' := hW.symm
        subst hW'
        clear hW HCb
        cases bb with
        | true =>
          have hR : Hid (R = E) := HRes.out (by rw [h3'.out]; rfl)
          have HCl := show Hid _ from HCk.out W1
          clear HRes HNx HCk
          go_wp2_with fail
          refine Calls.mono HCl.out ?_
          rintro e' W2 ⟨rfl, hF2⟩
          have HF2 : Hid (Fresh w W2) := HF1.out.trans hF2 (fun _ _ e => e)
          clear HCl hF2 HF1
          go_wp2
          go_ret
          exact ⟨by rw [hR.out]; rfl, HF2.out⟩
        | false =>
          have HQ2 := show Hid _ from HNx.out (by rw [h3'.out]; rfl)
          clear HRes HNx HCk
          go_wp2
          go_roundw
          case rel => exact ⟨k + 1, by omega, by rw [hEk3.out], HF1, HQ2⟩
          case measure => exact hszk.out
    · have hin : k = ln := by omega
      subst hin
      have hR : Hid (R = []) := (HE.out k (Nat.le_refl _) HQ.out (.inl rfl)).trans HNil.out
      have hN' := HNil.out
      rw [hN']
      have HCl := show Hid _ from HC.out k wr
      rw [hN'] at HCl
      clear HE H3 HD HEm HB HHf HC HQ hN'
      go_wp2_with fail
      refine Calls.mono HCl.out ?_
      rintro e' W2 ⟨rfl, hF2⟩
      have HF2 : Hid (Fresh w W2) := HF.out.trans hF2 (fun _ _ e => e)
      clear HCl hF2 HF
      go_wp2
      go_ret
      exact ⟨by rw [hR.out]; rfl, HF2.out⟩
end Go.Proofs.YtomeoklhjdgaoaaDoor
