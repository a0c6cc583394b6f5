/-
  What is behind tokens: the document's State.
-/
import Derived.Test.YtdponkpgokncdaaGwb
namespace Go.Proofs.Ytdponkpgokncdaa
open Go.RowKit Go.Lib Go.Maps

/-- What is behind the first tokens. -/
def stA (A : List Bool) (E : List Ed) (T : List (List UInt8)) (M : List Mg) (L : List Int) : Nat → Int
  | 0 => 0
  | i + 1 => nxF A E T M (stA A E T M L i) (L.getD i 0)
set_option maxHeartbeats 500000 in
set_option maxRecDepth 100000 in
theorem rstateT_any {p q r : Nat → Prop} (A : List Bool) (E : List Ed) (T : List (List UInt8)) (M : List Mg) (L : List Int) (an en tv mv lv : Value) (w : World) (hA : RbL p w an A) (hE : EdR p w en E) (hT : TxR q w tv T) (hM : MgR q w mv M) (hL : Rk .i64 r w lv L) :
    Calls Try.prog 26 #[.agg #[an, en], .agg #[tv, mv], lv] w fun e w' => e = .returned (zV (stA A E T M L L.length)) ∧ Fresh w w' := by
  have HB := show Hid _ from box2 w #[an, en] #[tv, mv] 28 55
  have HNX : Hid (∀ X, Fresh w X → ∀ s k, Calls Try.prog 24 #[.agg #[an, en], .agg #[tv, mv], zV s, zV k] X fun e w' => e = .returned (zV (nxF A E T M s k)) ∧ Fresh X w') := fun X hX s k => rnext_any A E T M an en tv mv X (hA.fresh hX) (hE.fresh hX) (hT.fresh hX) (hM.fresh hX) s k
  have HL : Hid (∀ X, Fresh w X → Rk .i64 r X lv L) := fun X hX => hL.fresh hX
  have hmany := hL.many
  obtain ⟨ta, tc, rfl⟩ := hT.shape
  obtain ⟨ma, mc, rfl⟩ := hM.shape
  obtain ⟨ao, ac, rfl⟩ := hA.shape
  obtain ⟨eo, ec, rfl⟩ := hE.shape
  obtain ⟨la, lc, rfl, _, _⟩ := hL.shape
  clear hA hE hT hM hL
  have HST : Hid (∀ i, stA A E T M L (i + 1) = nxF A E T M (stA A E T M L i) (L.getD i 0)) := fun i => rfl
  have HS0 : Hid (stA A E T M L 0 = 0) := rfl
  generalize stA A E T M L = S at *
  generalize L.length = n at *
  go_enter Try.func26, Try.ntmps26
  go_upto_region 1 with fail
  have HB0 := show Hid _ from HB.out _ (Kept.refl _ _)
  have hk0 := (Kept.refl (fun _ => False) ((w.alloc (.cells #[.slice ao A.length ac, .slice eo E.length ec] 28)).alloc (.cells #[.slice ta T.length tc, .slice ma M.length mc] 55)))
  have HK0 : Hid (Fresh _ _) := hk0
  clear hk0 HB0
  generalize (w.alloc (.cells #[.slice ao A.length ac, .slice eo E.length ec] 28)).alloc (.cells #[.slice ta T.length tc, .slice ma M.length mc] 55) = W1 at *
  go_wp2
  go_loopw [7, 8] (fun sv iv wr => ∃ (i : Nat), i ≤ n ∧ iv = zV i ∧ sv = zV (S i) ∧ Hid (Fresh W1 wr)) (fun _ iv _ => n - (RowKit.intOf iv).toNat)
  case atStart => exact ⟨0, Nat.zero_le _, rfl, by rw [HS0.out], HK0.out⟩
  case round =>
    obtain ⟨i, hi, rfl, rfl, HW⟩ := hrel
    have hrr := HB.out wr HW.out
    by_cases hlt : i < n
    · have hlt' : (i : Int) < (n : Int) := by omega
      have h0i : (0 : Int) ≤ (i : Int) := by omega
      have u0 : ∀ d : Nw wr, d.w.cell? ⟨w.heap.size, 0, none⟩ = some (.slice ao A.length ac) := fun d => by rw [Lib.cell_of_heap (d.f.at hrr.2.1 (fun e => e))]; rfl
      have u1 : ∀ d : Nw wr, d.w.cell? ⟨w.heap.size, 1, none⟩ = some (.slice eo E.length ec) := fun d => by rw [Lib.cell_of_heap (d.f.at hrr.2.1 (fun e => e))]; rfl
      have u2 : ∀ d : Nw wr, d.w.cell? ⟨w.heap.size + 1, 0, none⟩ = some (.slice ta T.length tc) := fun d => by rw [Lib.cell_of_heap (d.f.at hrr.2.2 (fun e => e))]; rfl
      have u3 : ∀ d : Nw wr, d.w.cell? ⟨w.heap.size + 1, 1, none⟩ = some (.slice ma M.length mc) := fun d => by rw [Lib.cell_of_heap (d.f.at hrr.2.2 (fun e => e))]; rfl
      obtain ⟨bb, off, rfl, _, hbl, hcell⟩ := (HL.out wr hrr.1).cells.2.2.2 (by omega)
      have c0 := hcell i hlt
      have cd : ∀ d : Nw wr, d.w.cell? ⟨bb, off + i, none⟩ = some (zV (L.getD i 0)) := fun d => (d.f.cell (p := ⟨bb, off + i, none⟩) hbl (fun e => e)).trans c0
      have KN : Hid (∀ d : Nw wr, Calls Try.prog 24 #[.agg #[.slice ao A.length ac, .slice eo E.length ec], .agg #[.slice ta T.length tc, .slice ma M.length mc], zV (S i), zV (L.getD i 0)] d.w fun e w' => e = .returned (zV (S (i + 1))) ∧ Fresh d.w w') := fun d => by
        rw [HST.out i]
        exact HNX.out d.w (hrr.1.trans d.f (fun _ _ e => e)) _ _
      have HFW : Hid (∀ d : Nw wr, Fresh W1 d.w) := fun d => HW.out.trans d.f (fun _ _ e => e)
      clear hrr hcell c0 HNX HB HL HST HS0 HK0 hbl
      generalize L.getD i 0 = kk at *
      obtain ⟨s2, hs2⟩ : ∃ s2, S (i + 1) = s2 := ⟨_, rfl⟩
      rw [hs2] at KN
      have HS2 : Hid (S (i + 1) = s2) := hs2
      clear hs2
      go_upto_region 5 with fail
      haveI : Nonempty (Nw wr) := nw_some wr
      refine wp_region_new (by kernel_rfl) (by kernel_rfl) ?_
      repeat (go_big_quiet_step (with_reducible exact Calls.new_of (KN.out _)))
      refine wpQuiet_nil ?_
      intro _ hw'
      obtain ⟨dq, hw''⟩ := hw'
      subst hw''
      go_wp2
      go_roundw
      case rel => exact ⟨i + 1, hlt, by go_num, by rw [HS2.out], HFW.out dq⟩
      case measure => simp [RowKit.intOf]; omega
    · obtain rfl : i = n := by omega
      have hlt' : ¬ ((i : Int) < (i : Int)) := by omega
      have HFE : Hid (Fresh w wr) := hrr.1
      clear hrr HNX HB HL HST
      go_wp2
      go_ret
      exact ⟨by first | rfl | simp, HFE.out⟩
end Go.Proofs.Ytdponkpgokncdaa
