/-
  For all n and k NatChooses answers true: awake does, Choose answers as the document says, it is the same of what is left, and the sum of two of one thing less.
-/
import Derived.Test.YtodomdgaoplhpabDoorCv
import Derived.Test.YtodomdgaoplhpabDoorIsa
import Derived.Test.YtodomdgaoplhpabDoorNl
namespace Go.Proofs.YtodomdgaoplhpabDoor.LChooses
open Go.ChangeShapes Go.WideShapes Go.ChangeAt Go.RowKit

theorem cell_new {W : World} {b : Nat} {v : Value} {t : TypeId} (h : W.heap[b]? = some (.cells #[v] t (0, 0))) : W.cell? ⟨b, 0, none⟩ = some v := by rw [Lib.cell_of_heap h]; rfl
theorem pascal {n k : Int} (h1 : 1 ≤ n) (h2 : n ≤ 4096) (h3 : 0 ≤ k) (h4 : k ≤ n) : cV (n - 1) (k - 1) + cV (n - 1) k = cV n k := by
  obtain ⟨a, rfl⟩ : ∃ a : Nat, n = (a : Int) + 1 := ⟨(n - 1).toNat, by omega⟩
  obtain ⟨b, rfl⟩ : ∃ b : Nat, k = b := ⟨k.toNat, by omega⟩
  rw [show (a : Int) + 1 - 1 = (a : Int) by omega]
  rcases Nat.eq_zero_or_pos b with h | h
  · subst h
    rw [cV_out (n := (a : Int)) (k := ((0 : Nat) : Int) - 1) (.inr (.inr (by omega)))]
    unfold cV
    rw [if_neg (by omega), if_neg (by omega)]
    simp [ch_zero]
  · obtain ⟨c, rfl⟩ : ∃ c, b = c + 1 := ⟨b - 1, by omega⟩
    rw [show ((c + 1 : Nat) : Int) - 1 = (c : Int) by omega]
    unfold cV
    rw [if_neg (by omega), if_neg (by omega), if_neg (by omega)]
    rw [show ((a : Int)).toNat = a by omega, show ((c : Int)).toNat = c by omega, show (((c + 1 : Nat) : Int)).toNat = c + 1 by omega, show ((a : Int) + 1).toNat = a + 1 by omega]
    rfl
theorem csym {n k : Int} (h2 : n ≤ 4096) (h3 : 0 ≤ k) (h4 : k ≤ n) : cV n (n - k) = cV n k := by
  obtain ⟨a, rfl⟩ : ∃ a : Nat, n = (a : Int) := ⟨n.toNat, by omega⟩
  obtain ⟨b, rfl⟩ : ∃ b : Nat, k = b := ⟨k.toNat, by omega⟩
  have h := ch_sym a b (by omega)
  unfold cV
  rw [if_neg (by omega), if_neg (by omega), show ((a : Int) - (b : Int)).toNat = a - b by omega, Int.toNat_natCast, Int.toNat_natCast, h]

set_option maxHeartbeats 2000000 in
set_option maxRecDepth 100000 in
theorem walk (n k : Int) (w : World) (hn : -9223372036854775808 ≤ n ∧ n ≤ 9223372036854775807) (hk : -9223372036854775808 ≤ k ∧ k ≤ 9223372036854775807) (hT : Pw w) :
    Calls Tryd.prog 3 #[.int .i64 n, .int .i64 k] w fun e w' => e = .returned (.bool true) ∧ Fresh w w' := by
  have HT := show Hid _ from hT
  have haw := awake_any w hT
  have hch := fun W => choose_any n k W hn hk
  have hrc := fun W => refChoose_any n k W hn hk
  obtain ⟨n0, n1⟩ := hn
  obtain ⟨k0, k1⟩ := hk
  obtain ⟨E, hE⟩ : ∃ x, x = cE n := ⟨_, rfl⟩
  obtain ⟨V, hV⟩ : ∃ x, x = cV n k := ⟨_, rfl⟩
  rw [← hE, ← hV] at hch hrc
  have HE := show Hid _ from hE
  have HV := show Hid _ from hV
  have hVb : bl V ≤ 4097 := by rw [hV]; exact cV_bl n k
  clear hT hE hV
  go_enter Tryd.func3, Tryd.ntmps3
  go_wp2_with fail
  refine haw.mono ?_
  rintro e w1 ⟨rfl, hF1⟩
  go_wp2_with fail
  refine (hch _).mono ?_
  rintro e w2 ⟨v2, rfl, hN2, hF2⟩
  obtain ⟨a2, q2, c2, rfl⟩ := hN2.shape
  have hF3 : Fresh w2 (w2.alloc (.cells #[.slice a2 q2 c2] 26)) := (Kept.refl _ _).alloc _
  have HF3 : Hid (Fresh w (w2.alloc (.cells #[.slice a2 q2 c2] 26))) := (hF1.trans hF2 (fun _ _ e => e)).trans hF3 (fun _ _ e => e)
  have HN3 := show Hid _ from hN2.fresh hF3
  have HB3 := show Hid _ from (heap_alloc_new w2 (.cells #[.slice a2 q2 c2] 26))
  clear haw hN2 hF2 hF3 hF1
  go_wp2_with fail
  generalize (w2.alloc (.cells #[.slice a2 q2 c2] 26)) = W3 at *
  generalize w2.heap.size = xb at *
  refine (hrc _).mono ?_
  rintro e w4 ⟨v4, rfl, hN4, hF4⟩
  obtain ⟨a4, q4, c4, rfl⟩ := hN4.shape
  have HF4 : Hid (Fresh w w4) := HF3.out.trans hF4 (fun _ _ e => e)
  have HX4 := show Hid _ from Nm.fresh HN3.out hF4
  have HB4 := show Hid _ from hF4.at HB3.out (fun e => e)
  have his := is_any _ _ V E w4 HX4.out hN4 (by omega) (Pw.fresh HT.out HF4.out)
  have hc4 := cell_new HB4.out
  clear hrc HN3 hF4 HB3 HF3 hN4
  go_wp2_with fail
  refine his.mono ?_
  rintro e w5 ⟨rfl, hF5⟩
  have HF5 : Hid (Fresh w w5) := HF4.out.trans hF5 (fun _ _ e => e)
  have HX5 := show Hid _ from Nm.fresh HX4.out hF5
  have HB5 := show Hid _ from hF5.at HB4.out (fun e => e)
  clear his hF5 HF4 HX4 HB4 hc4
  by_cases hbad : n < 0 ∨ 4096 < n
  · have hE1 : E = 1 := by rw [HE.out]; exact if_pos hbad
    subst hE1
    clear hbad
    go_wp2
    go_ret
    exact ⟨rfl, HF5.out⟩
  · have hE0 : E = 0 := by rw [HE.out]; exact if_neg hbad
    subst hE0
    by_cases hout : n < 1 ∨ k < 0 ∨ n < k
    · by_cases h1 : n < 1
      · have t1 : decide (n < 1) = true := by rw [decide_eq_true_iff]; exact h1
        clear hbad hout
        go_wp2
        go_ret
        exact ⟨rfl, HF5.out⟩
      · have t1 : decide (n < 1) = false := by rw [decide_eq_false_iff_not]; exact h1
        by_cases h2 : k < 0
        · have t2 : decide (k < 0) = true := by rw [decide_eq_true_iff]; exact h2
          clear hbad hout
          go_wp2
          go_ret
          exact ⟨rfl, HF5.out⟩
        · have t2 : decide (k < 0) = false := by rw [decide_eq_false_iff_not]; exact h2
          have h3 : n < k := by omega
          have t3 : decide (n < k) = true := by rw [decide_eq_true_iff]; exact h3
          clear hbad hout
          go_wp2
          go_ret
          exact ⟨rfl, HF5.out⟩
    · have t1 : decide (n < 1) = false := by rw [decide_eq_false_iff_not]; omega
      have t2 : decide (k < 0) = false := by rw [decide_eq_false_iff_not]; omega
      have t3 : decide (n < k) = false := by rw [decide_eq_false_iff_not]; omega
      have hs := csym (n := n) (k := k) (by omega) (by omega) (by omega)
      have hp := pascal (n := n) (k := k) (by omega) (by omega) (by omega) (by omega)
      rw [← HV.out] at hs hp
      have e1 : cE (n - 1) = 0 := if_neg (by omega)
      have e2 : cE n = 0 := if_neg hbad
      have hc1 := fun W => choose_any n (n - k) W (by omega) (by omega)
      have hc2 := fun W => choose_any (n - 1) (k - 1) W (by omega) (by omega)
      have hc3 := fun W => choose_any (n - 1) k W (by omega) (by omega)
      rw [hs, e2] at hc1
      rw [e1] at hc2 hc3
      have hbA : bl (cV (n - 1) (k - 1)) ≤ 4097 := cV_bl _ _
      have hbB : bl (cV (n - 1) k) ≤ 4097 := cV_bl _ _
      have HP := show Hid _ from hp
      obtain ⟨f1, f2⟩ := fit_in (N := V) (by omega)
      have g1 : -9223372036854775808 ≤ n - k := by omega
      have g2 : n - k ≤ 9223372036854775807 := by omega
      have g3 : 1 ≤ n := by omega
      have g4 : n ≤ 4096 := by omega
      have g5 : 0 ≤ k := by omega
      have g6 : k ≤ n := by omega
      generalize cV (n - 1) (k - 1) = A at *
      generalize cV (n - 1) k = B at *
      have F1 := show Hid _ from f1
      have F2 := show Hid _ from f2
      clear hbad hout hs hp e1 e2 HE HV hch f1 f2
      go_wp2_with fail
      refine (hc1 _).mono ?_
      rintro e w6 ⟨v6, rfl, hN6, hF6⟩
      obtain ⟨a6, q6, c6, rfl⟩ := hN6.shape
      have hF7 : Fresh w6 (w6.alloc (.cells #[.slice a6 q6 c6] 26)) := (Kept.refl _ _).alloc _
      have HF7 : Hid (Fresh w (w6.alloc (.cells #[.slice a6 q6 c6] 26))) := (HF5.out.trans hF6 (fun _ _ e => e)).trans hF7 (fun _ _ e => e)
      have HY7 := show Hid _ from hN6.fresh hF7
      have HX7 := show Hid _ from (Nm.fresh HX5.out hF6).fresh hF7
      have HB7 := show Hid _ from hF7.at (hF6.at HB5.out (fun e => e)) (fun e => e)
      have HC7 := show Hid _ from (heap_alloc_new w6 (.cells #[.slice a6 q6 c6] 26))
      clear hc1 hN6 hF6 hF7 HF5 HX5 HB5
      go_wp2_with fail
      generalize (w6.alloc (.cells #[.slice a6 q6 c6] 26)) = W7 at *
      generalize w6.heap.size = yb at *
      refine (hc2 _).mono ?_
      rintro e w8 ⟨v8, rfl, hN8, hF8⟩
      obtain ⟨a8, q8, c8, rfl⟩ := hN8.shape
      have hF9 : Fresh w8 (w8.alloc (.cells #[.slice a8 q8 c8] 26)) := (Kept.refl _ _).alloc _
      have hFx : Fresh W7 (w8.alloc (.cells #[.slice a8 q8 c8] 26)) := hF8.trans hF9 (fun _ _ e => e)
      have HF9 : Hid (Fresh w (w8.alloc (.cells #[.slice a8 q8 c8] 26))) := HF7.out.trans hFx (fun _ _ e => e)
      have HA9 := show Hid _ from hN8.fresh hF9
      have HX9 := show Hid _ from Nm.fresh HX7.out hFx
      have HY9 := show Hid _ from Nm.fresh HY7.out hFx
      have HB9 := show Hid _ from hFx.at HB7.out (fun e => e)
      have HC9 := show Hid _ from hFx.at HC7.out (fun e => e)
      have HD9 := show Hid _ from (heap_alloc_new w8 (.cells #[.slice a8 q8 c8] 26))
      clear hc2 hN8 hF8 hF9 hFx HF7 HX7 HY7 HB7 HC7
      go_wp2_with fail
      generalize (w8.alloc (.cells #[.slice a8 q8 c8] 26)) = W9 at *
      generalize w8.heap.size = ab at *
      refine (hc3 _).mono ?_
      rintro e w10 ⟨v10, rfl, hN10, hF10⟩
      obtain ⟨a10, q10, c10, rfl⟩ := hN10.shape
      have hF11 : Fresh w10 (w10.alloc (.cells #[.slice a10 q10 c10] 26)) := (Kept.refl _ _).alloc _
      have hFx : Fresh W9 (w10.alloc (.cells #[.slice a10 q10 c10] 26)) := hF10.trans hF11 (fun _ _ e => e)
      have HF11 : Hid (Fresh w (w10.alloc (.cells #[.slice a10 q10 c10] 26))) := HF9.out.trans hFx (fun _ _ e => e)
      have HA11 := show Hid _ from Nm.fresh HA9.out hFx
      have HBB11 := show Hid _ from hN10.fresh hF11
      have HX11 := show Hid _ from Nm.fresh HX9.out hFx
      have HY11 := show Hid _ from Nm.fresh HY9.out hFx
      have HB11 := show Hid _ from hFx.at HB9.out (fun e => e)
      have HC11 := show Hid _ from hFx.at HC9.out (fun e => e)
      have hD11 := hFx.at HD9.out (fun e => e)
      have hE11 := heap_alloc_new w10 (.cells #[.slice a10 q10 c10] 26)
      have hcd := cell_new hD11
      have hce := cell_new hE11
      clear hc3 hN10 hF10 hF11 hFx HF9 HX9 HY9 HB9 HC9 HD9 HA9 hD11 hE11
      go_wp2_with fail
      generalize (w10.alloc (.cells #[.slice a10 q10 c10] 26)) = W11 at *
      have hadd := natAdd_any _ _ A B W11 HA11.out HBB11.out (by omega)
      rw [HP.out, F1.out, F2.out] at hadd
      clear hcd hce HA11 HBB11
      refine hadd.mono ?_
      rintro e w12 ⟨v12, rfl, hN12, hF12⟩
      obtain ⟨a12, q12, c12, rfl⟩ := hN12.shape
      have hF13 : Fresh w12 (w12.alloc (.cells #[.slice a12 q12 c12] 26)) := (Kept.refl _ _).alloc _
      have hFx : Fresh W11 (w12.alloc (.cells #[.slice a12 q12 c12] 26)) := hF12.trans hF13 (fun _ _ e => e)
      have HF13 : Hid (Fresh w (w12.alloc (.cells #[.slice a12 q12 c12] 26))) := HF11.out.trans hFx (fun _ _ e => e)
      have HS13 := show Hid _ from hN12.fresh hF13
      have HX13 := show Hid _ from Nm.fresh HX11.out hFx
      have HY13 := show Hid _ from Nm.fresh HY11.out hFx
      have HB13 := show Hid _ from hFx.at HB11.out (fun e => e)
      have hC13 := hFx.at HC11.out (fun e => e)
      have HD13 := show Hid _ from (heap_alloc_new w12 (.cells #[.slice a12 q12 c12] 26))
      have hcb := cell_new HB13.out
      have hcc := cell_new hC13
      clear hadd hN12 hF12 hF13 hFx HF11 HX11 HY11 HB11 HC11 hC13
      go_wp2_with fail
      have hcm := natCompare_eq _ _ V _ HY13.out HX13.out
      have HZ : Hid (w12.heap.size = w12.heap.size) := rfl
      refine hcm.mono ?_
      rintro e w14 ⟨rfl, hF14⟩
      have HF14 : Hid (Fresh w w14) := HF13.out.trans hF14 (fun _ _ e => e)
      have hX14 := Nm.fresh HX13.out hF14
      have hS14 := Nm.fresh HS13.out hF14
      have hB14 := hF14.at HB13.out (fun e => e)
      have hD14 := hF14.at HD13.out (fun e => e)
      have hcb4 := cell_new hB14
      have hcd4 := cell_new hD14
      have hcm2 := natCompare_eq _ _ V _ hS14 hX14
      clear hcm hF14 HF13 HX13 HY13 HS13 HB13 HD13 hX14 hS14 hB14 hD14 hcb hcc
      go_wp2_with fail
      refine hcm2.mono ?_
      rintro e w15 ⟨rfl, hF15⟩
      have HF15 : Hid (Fresh w w15) := HF14.out.trans hF15 (fun _ _ e => e)
      clear hcm2 hF15 HF14
      go_wp2
      go_ret
      exact ⟨rfl, HF15.out⟩
end Go.Proofs.YtodomdgaoplhpabDoor.LChooses
