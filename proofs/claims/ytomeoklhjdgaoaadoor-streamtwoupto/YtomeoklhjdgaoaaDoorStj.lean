/-
  awake.
-/
import Derived.Test.YtomeoklhjdgaoaaDoorSti
namespace Go.Proofs.YtomeoklhjdgaoaaDoor
open Go.RowKit Go.Lib Go.Maps

theorem mvd_fresh {w W W' : World} {F F' : Nat → Prop} (h : Fresh w W) (hn : Nw0 w F) (k : Mvd F W F' W') : Fresh w W' ∧ Nw0 w F' :=
  ⟨h.trans k.1 (fun i hi e => by have := hn i e; omega), fun q hq => (k.2.2 q hq).elim (hn q) (fun e => Nat.le_trans h.size e)⟩
abbrev T0 : List (List UInt8) := [[83, 84, 79, 80]]
theorem a_chk : chkF T0 = 0 := by decide +kernel
theorem a_cu1 : cuM T0 [97, 226, 130] = -1 := by decide +kernel
theorem a_go1 : goF T0 [97, 226, 130] = [97] := by decide +kernel
theorem a_hd1 : hldF T0 [97, 226, 130] = [226, 130] := by decide +kernel
theorem a_cl1 : clL [97] = [97] := by decide +kernel
theorem a_cu2 : cuM T0 [226, 130, 172, 32, 83, 84] = -1 := by decide +kernel
theorem a_go2 : goF T0 [226, 130, 172, 32, 83, 84] = [226, 130, 172, 32] := by decide +kernel
theorem a_cl2 : clL [226, 130, 172, 32] = [226, 130, 172, 32] := by decide +kernel
set_option maxHeartbeats 4000000 in
set_option maxRecDepth 100000 in
theorem awake_any (w : World) (hm : TbM w) :
    Calls Tryd.prog 9 #[] w fun e w' => e = .returned (.bool true) ∧ Fresh w w' := by
  have hF0 : Fresh w (w.alloc (.cells #[sV [83, 84, 79, 80]] 9)) := (Kept.refl _ w).alloc _
  have hR : TxR (fun _ => True) (w.alloc (.cells #[sV [83, 84, 79, 80]] 9)) (.slice (some ⟨w.heap.size, 0, none⟩) 1 1) T0 :=
    ⟨some ⟨w.heap.size, 0, none⟩, 1, rfl, fun e => (by cases e), Nat.le_refl _, fun i hi => by
      have : i = 0 := by simp at hi; omega
      subst this; decide, by decide, fun _ => ⟨w.heap.size, 0, rfl, trivial, by rw [World.size_alloc]; omega, fun i hi => by
      have : i = 0 := by simp at hi; omega
      subst this
      rw [World.cell?_alloc_new]; rfl⟩⟩
  have HN := show Hid _ from New_any T0 _ _ hR (hm.fresh hF0)
  have HF0 : Hid (Fresh w (w.alloc (.cells #[sV [83, 84, 79, 80]] 9))) := hF0
  have HT : Hid (∀ W, Fresh w W → TbM W) := fun W hk => hm.fresh hk
  have hG : GdT T0 := (chk_ok a_chk).2
  have HG : Hid (GdT T0) := hG
  clear hF0 hR hm hG
  go_enter Tryd.func9, Tryd.ntmps9
  go_wp2_with fail
  refine Calls.mono HN.out ?_
  rintro e' W1 ⟨hF1, h | ⟨_, b, F, rfl, hS, hN, _⟩⟩
  · exact absurd a_chk h.1
  have HF1 : Hid (Fresh w W1) := HF0.out.trans hF1 (fun _ _ e => e)
  have HN1 : Hid (Nw0 w F) := fun q hq => by have := hN q hq; rw [World.size_alloc] at this; omega
  have HC1 := show Hid _ from Feed_live [97, 226, 130] hS (by decide) (by decide) HG.out (HT.out W1 HF1.out)
  clear HN hF1 hS hN HF0
  go_wp2_with fail
  refine Calls.mono HC1.out ?_
  rintro e' W2 ⟨_, h2⟩
  obtain ⟨rfl, F2, hS2, hM2⟩ := h2 a_cu1
  rw [show goF T0 ([] ++ [97, 226, 130]) = [97] from a_go1, a_cl1, show hldF T0 ([] ++ [97, 226, 130]) = [226, 130] from a_hd1] at *
  obtain ⟨hF2, hN2⟩ := mvd_fresh HF1.out HN1.out hM2
  have HF2 : Hid (Fresh w W2) := hF2
  have HN2 : Hid (Nw0 w F2) := hN2
  have HH := show Hid _ from Held_any hS2
  have HC2 := show Hid _ from Feed_live [172, 32, 83, 84] hS2 (by decide) (by decide) HG.out (HT.out W2 hF2)
  clear HC1 h2 hS2 hM2 hF2 hN2 HF1 HN1
  go_wp2_with fail
  refine Calls.mono HH.out ?_
  rintro e' W3 ⟨rfl, hW⟩
  have hW' := hW.symm
  subst hW'
  clear HH hW
  go_wp2_with fail
  refine Calls.mono HC2.out ?_
  rintro e' W4 ⟨_, h2⟩
  obtain ⟨rfl, F4, _, hM4⟩ := h2 a_cu2
  rw [show goF T0 ([226, 130] ++ [172, 32, 83, 84]) = [226, 130, 172, 32] from a_go2, a_cl2] at *
  have HF4 : Hid (Fresh w W4) := (mvd_fresh HF2.out HN2.out hM4).1
  clear HC2 h2 hM4 HF2 HN2 HT HG
  go_wp2
  go_ret
  exact ⟨rfl, HF4.out⟩
end Go.Proofs.YtomeoklhjdgaoaaDoor
