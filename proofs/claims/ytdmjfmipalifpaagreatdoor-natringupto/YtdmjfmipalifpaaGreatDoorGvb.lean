/-
  given: the number whose digits to the base 2^32 these are, the document's and the program's.
-/
import Derived.Test.YtdmjfmipalifpaaGreatDoorGva
import Derived.Test.YtdmjfmipalifpaaGreatDoorRgb
import Derived.Test.YtdmjfmipalifpaaGreatDoorRfb
namespace Go.Proofs.YtdmjfmipalifpaaGreatDoor
open Go.RowKit

theorem rn_set {w : World} {v : Value} {N : Nat} (h : Rn w v N) {b : Nat} {u : Value} {t : TypeId} {fr : Nat × Nat} (hb : w.heap[b]? = some (.cells #[u] t fr)) (hu : ∀ k z, u ≠ .int k z) (x : Value) : Rn (w.setCell ⟨b, 0, none⟩ x) v N := by
  obtain ⟨L, h1, h2⟩ := h
  refine ⟨L, ?_, h2⟩
  have hq : Nd (fun c => c ≠ b) w v L := by
    obtain ⟨ao, cap, e1, e2, e3, hc, e5⟩ := h1
    refine ⟨ao, cap, e1, e2, e3, fun h0 => ?_, e5⟩
    obtain ⟨c, off, f1, f2, f3, f4⟩ := hc h0
    refine ⟨c, off, f1, fun e => ?_, f3, f4⟩
    subst e
    have := f4 0 (List.length_pos_iff.2 h0)
    rw [Lib.cell_of_heap hb] at this
    cases off with
    | zero => simp at this; exact hu _ _ this
    | succ n => simp at this
  exact (hq.kept (kept_set w b 0 x) (fun c hc _ e => hc e)).mono (fun _ _ _ => trivial)

/-- The text of a number is a text. -/
theorem dec_text (N : Nat) : ¬ noText (Lib.decDigits N) := by
  obtain ⟨h1, _⟩ := dec_read N
  rcases Nat.eq_zero_or_pos N with rfl | hp
  · rw [show Lib.decDigits 0 = [48] from by kernel_rfl]
    rintro (e | e)
    · cases e
    · exact absurd e (by decide)
  · obtain ⟨d, r, e, hd⟩ := dE_head (N + 1) (n := N) (Nat.lt_trans (Nat.lt_succ_self N) (Nat.lt_pow_self (by decide))) (by omega)
    rw [dE_pos (by omega)] at e
    rw [e] at h1 ⊢
    have hz : (d :: r).head? ≠ some 48 := by simpa using hd
    rintro (h | h)
    · cases h
    · rw [tE_pre hz (n := (d :: r).length) ⟨Nat.le_refl _, h1.take _, fun b hb => by simp at hb⟩] at h
      exact absurd h (Nat.lt_irrefl _)
theorem dec_pr (N : Nat) : prP (Lib.decDigits N) = 0 ∧ prE (Lib.decDigits N) = fitE N ∧ prN (Lib.decDigits N) = fitN N := by
  have := pr_good (dec_text N)
  rw [(dec_read N).2] at this
  exact this
theorem dec_len (N : Nat) : (Lib.decDigits N).length ≤ bl N + 1 := by
  rcases Nat.eq_zero_or_pos N with rfl | hp
  · rw [show Lib.decDigits 0 = [48] from by kernel_rfl]; exact Nat.le_add_left _ _
  · exact dE_len (N := N) (n := 0) (by rw [dE_zero, List.nil_append, dE_pos (by omega)])
theorem bl_words {L : List Nat} (h : Dg 4294967296 L) : bl (val 4294967296 L) ≤ 32 * L.length := by
  refine bl_le ?_
  have := val_lt (B := 4294967296) (by decide) h
  rw [show (4294967296 : Nat) = 2 ^ 32 by decide, ← Nat.pow_mul] at this
  exact this

set_option maxHeartbeats 1000000 in
set_option maxRecDepth 100000 in
theorem given_any (v : Value) (L : List Nat) (w : World) (h : Dw .u32 4294967296 (fun _ => True) w v L) (hl : L.length ≤ 1048576) :
    Calls Tryz.prog 13 #[v] w fun e w' => ∃ mv xv, e = .returned (.tuple #[mv, .agg #[xv], .bool (decide (fitE (val 4294967296 L) = 0)), .bool true]) ∧ (Rn w' mv (val 4294967296 L) ∧ Nm w' xv (fitN (val 4294967296 L)) ∧ Fresh w w') := by
  have hbl := bl_words h.dg
  have hwd := fun W (hF : Fresh w W) => refWords_any v L W (h.fresh hF) hl
  obtain ⟨ao, cap, rfl⟩ := h.shape
  generalize val 4294967296 L = N at *
  have hfit := fun W mv (hR : Rn W mv N) => refFit_any mv N W hR
  have htx := fun W mv (hR : Rn W mv N) => refText_any mv N W hR (by omega)
  have hsz : (⟨(Lib.decDigits N).toArray⟩ : ByteArray).size ≤ 9223372036854775807 := by
    have := dec_len N
    show (Lib.decDigits N).toArray.size ≤ _
    rw [List.size_toArray]
    omega
  have hpa := fun W => parse_any ⟨(Lib.decDigits N).toArray⟩ W hsz
  obtain ⟨p1, p2, p3⟩ := dec_pr N
  rw [show (⟨(Lib.decDigits N).toArray⟩ : ByteArray).data.toList = Lib.decDigits N from rfl, p1, p2, p3] at hpa
  generalize (⟨(Lib.decDigits N).toArray⟩ : ByteArray) = s at *
  obtain ⟨F, hF0⟩ : ∃ F, F = fitE N := ⟨_, rfl⟩
  rw [← hF0] at hpa hfit ⊢
  clear hF0
  have HWd : Hid (Unit → _) := fun (_ : Unit) => hwd
  have HFit : Hid (Unit → _) := fun (_ : Unit) => hfit
  have HTx : Hid (Unit → _) := fun (_ : Unit) => htx
  have HPa : Hid (Unit → _) := fun (_ : Unit) => hpa
  clear hwd hfit htx hpa p1 p2 p3 h hbl hl hsz
  go_enter Tryz.func13, Tryz.ntmps13
  go_wp2_with fail
  refine (HWd.out () _ ((Kept.refl _ _).alloc _)).mono ?_
  rintro e w1 ⟨mv, rfl, hR1, hF1⟩
  have hb1 : w1.heap[w.heap.size]? = some (.cells #[.slice none 0 0] 26 (0, 0)) := hF1.at (heap_alloc_new w _) (fun e => e)
  have hG1 : Fresh w w1 := Kept.trans ((Kept.refl _ _).alloc _) hF1 (fun _ _ e => e)
  have HB1 := show Hid _ from hb1
  have HR1 : Hid (Unit → _) := fun (_ : Unit) => hR1
  have HG1 := show Hid _ from hG1
  obtain ⟨ma, mn, mc, rfl⟩ := hR1.shape
  clear hb1 hR1 hG1 hF1 HWd
  go_wp2_with fail
  refine (HFit.out () _ _ (HR1.out ())).mono ?_
  rintro e w2 ⟨fv, rfl, hR2, hw2⟩
  subst hw2
  clear hR2 HFit
  go_wp2_with fail
  refine (HTx.out () _ _ (HR1.out ())).mono ?_
  rintro e w3 ⟨rfl, hF3⟩
  go_wp2_with fail
  refine (HPa.out () _).mono ?_
  rintro e w4 ⟨xv, rfl, hN4, hF4⟩
  have hF24 := Kept.trans hF3 hF4 (fun _ _ e => e)
  have hb4 : w4.heap[w.heap.size]? = some (.cells #[.slice none 0 0] 26 (0, 0)) := hF24.at HB1.out (fun e => e)
  obtain ⟨xa, xn, xc, rfl⟩ := hN4.shape
  have hF45 : Fresh w4 (w4.alloc (.cells #[.slice xa xn xc] 26)) := (Kept.refl _ _).alloc _
  have hb5 := hF45.at hb4 (fun e => e)
  have hR5 : Rn (w4.alloc (.cells #[.slice xa xn xc] 26)) (.slice ma mn mc) N := Rn.fresh (HR1.out ()) (Kept.trans hF24 hF45 (fun _ _ e => e))
  have hN5 : Nm (w4.alloc (.cells #[.slice xa xn xc] 26)) (.slice xa xn xc) (fitN N) := Nm.fresh hN4 hF45
  have hG5 : Fresh w (w4.alloc (.cells #[.slice xa xn xc] 26)) := Kept.trans HG1.out (Kept.trans hF24 hF45 (fun _ _ e => e)) (fun _ _ e => e)
  have hc5 : (w4.alloc (.cells #[.slice xa xn xc] 26)).cell? ⟨w4.heap.size, 0, none⟩ = some (.slice xa xn xc) := by rw [Lib.cell_of_heap (heap_alloc_new w4 _)]; rfl
  have hr5 : (w4.alloc (.cells #[.slice xa xn xc] 26)).cell? ⟨w.heap.size, 0, none⟩ = some (.slice none 0 0) := by rw [Lib.cell_of_heap hb5]; rfl
  have hf5 : (w4.alloc (.cells #[.slice xa xn xc] 26)).frozen? ⟨w.heap.size, 0, none⟩ = false := Lib.frozen_of_heap hb5 0
  have hcr : ((w4.alloc (.cells #[.slice xa xn xc] 26)).setCell ⟨w.heap.size, 0, none⟩ (.slice xa xn xc)).cell? ⟨w.heap.size, 0, none⟩ = some (.slice xa xn xc) := by
    rw [Lib.cell_of_heap (heap_setCell_same _ w.heap.size 0 _ _ (.slice xa xn xc) hb5)]
    rfl
  have HCR := show Hid _ from hcr
  clear hcr
  have HE : Hid (∀ W, W = ((w4.alloc (.cells #[.slice xa xn xc] 26)).setCell ⟨w.heap.size, 0, none⟩ (.slice xa xn xc)).drew → Rn W (.slice ma mn mc) N ∧ Nm W (.slice xa xn xc) (fitN N) ∧ Fresh w W) := fun W hW => by
    subst hW
    have hd := fun (X : World) => (Kept.refl (fun _ => False) X).drew
    exact ⟨Rn.fresh (rn_set hR5 hb5 (fun _ _ => Value.noConfusion) _) (hd _), Nm.fresh (nm_set hN5 hb5 (by decide) _ _) (hd _), (Kept.trans hG5 (kept_set _ _ _ _) (fun i hi e => by
      have e' : i = w.heap.size := e
      omega)).drew⟩
  clear hN4 hF24 hb4 hF3 hF4 HR1 HG1 HB1 hF45 hb5 hR5 hN5 hG5 HPa HTx
  go_wp2_with fail
  go_region
  go_wp2
  refine bodyPost_ret (v := .tuple #[.slice ma mn mc, .agg #[.slice xa xn xc], .bool (decide (F = 0)), .bool true]) ?_ rfl ⟨_, _, rfl, HE.out _ rfl⟩
  have hcr := HCR.out
  simp [results, Tryz.results13, go_sem, hcr]
  by_cases h0 : F = 0 <;> simp [h0]
end Go.Proofs.YtdmjfmipalifpaaGreatDoor
