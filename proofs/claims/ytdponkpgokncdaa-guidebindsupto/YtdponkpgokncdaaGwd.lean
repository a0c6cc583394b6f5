/-
  What is behind tokens: the program's State.
-/
import Derived.Test.YtdponkpgokncdaaGwc
namespace Go.Proofs.Ytdponkpgokncdaa
open Go.RowKit Go.Lib Go.Maps

theorem nx_go {A : List Bool} {E : List Ed} {T : List (List UInt8)} {M : List Mg} {s k : Int} (h1 : vcE T M = 0) (h2 : chE A E = 0) (h3 : s = -1 ∨ (0 ≤ s ∧ s < ((nA A).length : Int))) : nxF A E T M s k = if 0 < k ∧ k < (T.length : Int) then wkF (mF A E) s (gT T k.toNat) else -1 := by
  rcases h3 with h | h
  · rw [nx_out (by omega), h, wkF_dead]
    split <;> rfl
  · exact nx_in h1 h2 h
set_option maxHeartbeats 500000 in
set_option maxRecDepth 100000 in
theorem gstate_any {p q r : Nat → Prop} (A : List Bool) (E : List Ed) (T : List (List UInt8)) (M : List Mg) (L : List Int) (an en tv mv lv : Value) (w : World) (hA : RbL p w an A) (hE : EdR p w en E) (hT : TxR q w tv T) (hM : MgR q w mv M) (hL : Rk .i64 r w lv L) :
    Calls Try.prog 25 #[.agg #[an, en], .agg #[tv, mv], lv] w fun e w' => e = .returned (zV (stA A E T M L L.length)) ∧ Fresh w w' := by
  have HB := show Hid _ from box2 w #[an, en] #[tv, mv] 25 49
  have HTG : Hid (∀ X, Fresh w X → Calls Try.prog 38 #[.agg #[an, en], .agg #[tv, mv]] X fun e w' => TgQ A E T M X e w') := fun X hX => together_any A E T M an en tv mv X (hA.fresh hX) (hE.fresh hX) (hT.fresh hX) (hM.fresh hX)
  have HL : Hid (∀ X, Fresh w X → Rk .i64 r X lv L) := fun X hX => hL.fresh hX
  have HTX : Hid (∀ X, Fresh w X → TxR q X tv T) := fun X hX => hT.fresh hX
  have hmany := hL.many
  obtain ⟨ta, tc, rfl⟩ := hT.shape
  obtain ⟨ma, mc, rfl⟩ := hM.shape
  obtain ⟨ao, ac, rfl⟩ := hA.shape
  obtain ⟨eo, ec, rfl⟩ := hE.shape
  obtain ⟨la, lc, rfl, _, _⟩ := hL.shape
  clear hA hE hT hM hL
  have HST : Hid (∀ i, stA A E T M L (i + 1) = nxF A E T M (stA A E T M L i) (L.getD i 0)) := fun i => rfl
  have HS0 : Hid (stA A E T M L 0 = 0) := rfl
  generalize stA A E T M L = S at *
  generalize L.length = n at *
  go_enter Try.func25, Try.ntmps25
  go_upto_region 1 with fail
  have HK0 : Hid (Fresh ((w.alloc (.cells #[.slice ao A.length ac, .slice eo E.length ec] 25)).alloc (.cells #[.slice ta T.length tc, .slice ma M.length mc] 49)) ((w.alloc (.cells #[.slice ao A.length ac, .slice eo E.length ec] 25)).alloc (.cells #[.slice ta T.length tc, .slice ma M.length mc] 49))) := Kept.refl _ _
  generalize (w.alloc (.cells #[.slice ao A.length ac, .slice eo E.length ec] 25)).alloc (.cells #[.slice ta T.length tc, .slice ma M.length mc] 49) = W1 at *
  rcases Nat.eq_zero_or_pos n with h0 | h0
  · subst h0
    have HF : Hid (Fresh w W1) := (HB.out _ HK0.out).1
    clear HB HTG HL HTX HST HK0
    go_wp2
    go_ret
    exact ⟨by rw [HS0.out]; rfl, HF.out⟩
  · have hn0 : ((n : Int) == 0) = false := beq_eq_false_iff_ne.2 (by omega)
    obtain ⟨hf1, hb0, hb1⟩ := HB.out _ HK0.out
    have x0 : W1.cell? ⟨w.heap.size, 0, none⟩ = some (.slice ao A.length ac) := by rw [Lib.cell_of_heap hb0]; rfl
    have x1 : W1.cell? ⟨w.heap.size, 1, none⟩ = some (.slice eo E.length ec) := by rw [Lib.cell_of_heap hb0]; rfl
    have x2 : W1.cell? ⟨w.heap.size + 1, 0, none⟩ = some (.slice ta T.length tc) := by rw [Lib.cell_of_heap hb1]; rfl
    have x3 : W1.cell? ⟨w.heap.size + 1, 1, none⟩ = some (.slice ma M.length mc) := by rw [Lib.cell_of_heap hb1]; rfl
    have HT1 := show Hid _ from HTG.out W1 hf1
    clear hb0 hb1 hf1 HTG
    unfold TgQ at HT1
    go_wp2_with fail
    refine Calls.mono HT1.out ?_
    rintro e X ⟨hf, hc⟩
    obtain ⟨hfw, _, hb1⟩ := HB.out X (HK0.out.trans hf (fun _ _ e => e))
    have x2 : X.cell? ⟨w.heap.size + 1, 0, none⟩ = some (.slice ta T.length tc) := by rw [Lib.cell_of_heap hb1]; rfl
    have HF := show Hid _ from hfw
    clear hf hb1 HB HT1 HK0 hfw
    rcases hc with ⟨hne, rfl⟩ | ⟨hv0, hg0, B, b, av, sv, rfl, hm⟩
    · have HZ : Hid (S n = -1) := by
        obtain ⟨m, rfl⟩ : ∃ m, n = m + 1 := ⟨n - 1, by omega⟩
        exact (HST.out m).trans (nx_bad hne)
      clear hne HL HTX HST HS0
      go_wp2
      go_ret
      exact ⟨by rw [HZ.out]; rfl, HF.out⟩
    · have HR : Hid (∀ i, S i = -1 ∨ (0 ≤ S i ∧ S i < ((nA A).length : Int))) := fun i => by
        induction i with
        | zero => exact .inr ⟨by rw [HS0.out]; omega, by rw [HS0.out]; have := nA_pos A; omega⟩
        | succ i ih =>
          rw [HST.out i, nx_go hv0 hg0 ih]
          split
          · exact wkF_range hm.rg _ _ ih
          · exact .inl rfl
      have HNX : Hid (∀ i, Calls Try.prog 39 #[.pointer (some ⟨b, 0, none⟩), .slice ta T.length tc, zV (S i), zV (L.getD i 0)] X fun e w' => e = .returned (zV (S (i + 1))) ∧ w' = X) := fun i => by
        rw [HST.out i, nx_go hv0 hg0 (HR.out i)]
        exact next_mach hm T _ (HTX.out X HF.out) (good_64 (vcE_zero hv0).1) _ (HR.out i) _
      have hrows := (HL.out X HF.out).cells.2.2.2 h0
      obtain ⟨bb, off, rfl, _, hbl, hcell⟩ := hrows
      have HCL : Hid _ := hcell
      clear hm hv0 hg0 HTX HL HR HST hbl hcell
      go_wp2
      go_loopw [9, 25] (fun sv iv wr => ∃ (i : Nat), i ≤ n ∧ iv = zV i ∧ sv = zV (S i) ∧ wr = X) (fun _ iv _ => n - (RowKit.intOf iv).toNat)
      case atStart => exact ⟨0, Nat.zero_le _, rfl, by rw [HS0.out], rfl⟩
      case round =>
        obtain ⟨i, hi, rfl, rfl, rfl⟩ := hrel
        by_cases hlt : i < n
        · have hlt' : (i : Int) < (n : Int) := by omega
          have h0i : (0 : Int) ≤ (i : Int) := by omega
          have c0 := HCL.out i hlt
          have HN := show Hid _ from HNX.out i
          clear HNX HCL HS0
          generalize L.getD i 0 = kk at *
          obtain ⟨s2, hs2⟩ : ∃ s2, S (i + 1) = s2 := ⟨_, rfl⟩
          rw [hs2] at HN
          have HS2 : Hid (S (i + 1) = s2) := hs2
          clear hs2
          go_wp2_with fail
          refine Calls.mono HN.out ?_
          rintro e X2 ⟨rfl, rfl⟩
          go_wp2
          go_roundw
          case rel => exact ⟨i + 1, hlt, by go_num, by rw [HS2.out], by simp⟩
          case measure => simp [RowKit.intOf]; omega
        · obtain rfl : i = n := by omega
          have hlt' : ¬ ((i : Int) < (i : Int)) := by omega
          clear HNX HCL HS0
          go_wp2
          go_ret
          exact ⟨by first | rfl | simp, HF.out⟩
end Go.Proofs.Ytdponkpgokncdaa
