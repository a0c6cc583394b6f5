/-
  Text, Bits and Power of the program's numbers; awake.
-/
import Derived.Test.YtdmjfmipalifpaaGreatDoorTy
namespace Go.Proofs.YtdmjfmipalifpaaGreatDoor
open Go.RowKit

set_option maxHeartbeats 400000 in
set_option maxRecDepth 100000 in
theorem text_zero (w : World) : Calls Tryz.prog 42 #[.slice none 0 0] w fun e w' => e = .returned (.string (sB (Lib.decDigits 0))) ∧ Fresh w w' := by
  have hc := fun W => Tryz.stringslite_Clone ⟨#[48]⟩ W (by decide)
  rw [show sB (Lib.decDigits 0) = (⟨#[48]⟩ : ByteArray) by rw [Lib.decDigits_one (by omega)]; rfl]
  go_enter Tryz.func42, Tryz.ntmps42
  go_wp2_with (first | (go_at_call 80; refine (hc _).mono ?_; rintro e w1 ⟨rfl, hB⟩; have hF : Fresh w w1 := Kept.ofBelow hB (fun i h1 h2 => by omega); clear hB) | go_in)
  go_ret
  exact ⟨rfl, hF⟩

theorem text_any (v : Value) (N : Nat) (w : World) (h : Nm w v N) (hb : bl N ≤ 1099511627776) (hT : Pw w) :
    Calls Tryz.prog 42 #[v] w fun e w' => e = .returned (.string (sB (Lib.decDigits N))) ∧ Fresh w w' := by
  rcases Nat.eq_zero_or_pos N with h0 | h0
  · subst h0
    rw [h.zero]
    exact text_zero w
  · exact text_pos v N w h (by omega) hb hT

set_option maxHeartbeats 400000 in
set_option maxRecDepth 100000 in
theorem natText_any (v : Value) (N : Nat) (w : World) (h : Nm w v N) (hb : bl N ≤ 1099511627776) (hT : Pw w) :
    Calls Tryz.prog 12 #[.agg #[v]] w fun e w' => e = .returned (.string (sB (Lib.decDigits N))) ∧ Fresh w w' := by
  have ht := fun W (hF : Fresh w W) => text_any v N W (h.fresh hF) hb (hT.fresh hF)
  obtain ⟨a, n, c, rfl⟩ := h.shape
  have hF1 : Fresh w (w.alloc (.cells #[.slice a n c] 26)) := (Kept.refl _ _).alloc _
  have HF1 := show Hid _ from hF1
  clear h hF1 hT
  go_enter Tryz.func12, Tryz.ntmps12
  go_wp2_with fail
  refine (ht _ HF1.out).mono ?_
  rintro e w1 ⟨rfl, hF⟩
  have HF2 : Hid (Fresh w w1) := HF1.out.trans hF (fun _ _ e => e)
  clear ht hF
  go_wp2
  go_ret
  exact ⟨rfl, HF2.out⟩

set_option maxHeartbeats 400000 in
set_option maxRecDepth 100000 in
theorem natBits_any (v : Value) (N : Nat) (w : World) (h : Nm w v N) :
    Calls Tryz.prog 17 #[.agg #[v]] w fun e w' => e = .returned (.int .i64 ((bl N : Nat) : Int)) ∧ Fresh w w' := by
  obtain ⟨L, hL, hc, hv, _⟩ := h
  have ht := fun W (hF : Fresh w W) => bits_any _ v L W (Dw.fresh hL hF) hc
  rw [hv] at ht
  obtain ⟨a, c, rfl⟩ := hL.shape
  have hF1 : Fresh w (w.alloc (.cells #[.slice a L.length c] 26)) := (Kept.refl _ _).alloc _
  have HF1 := show Hid _ from hF1
  clear hF1 hL hc hv
  generalize bl N = K at *
  go_enter Tryz.func17, Tryz.ntmps17
  go_wp2_with fail
  refine (ht _ HF1.out).mono ?_
  rintro e w1 ⟨rfl, rfl⟩
  clear ht
  go_wp2
  go_ret
  exact ⟨rfl, HF1.out⟩

/-- A number in a box, and a box for the answer behind it. -/
structure Bx (w : World) (v u : Value) (W : World) : Prop where
  fr : Fresh w W
  b1 : W.heap[w.heap.size]? = some (.cells #[v] 26 (0, 0))
  b2 : W.heap[w.heap.size + 1]? = some (.cells #[u] 26 (0, 0))
theorem Bx.next {w : World} {v u : Value} {W W' : World} (h : Bx w v u W) (hF : Fresh W W') : Bx w v u W' := ⟨h.fr.trans hF (fun _ _ e => e), hF.at h.b1 (fun e => e), hF.at h.b2 (fun e => e)⟩
theorem Bx.c1 {w : World} {v u : Value} {W : World} (h : Bx w v u W) : W.cell? ⟨w.heap.size, 0, none⟩ = some v := by rw [Lib.cell_of_heap h.b1]; rfl
theorem Bx.c2 {w : World} {v u : Value} {W : World} (h : Bx w v u W) : W.cell? ⟨w.heap.size + 1, 0, none⟩ = some u := by rw [Lib.cell_of_heap h.b2]; rfl
theorem Bx.f2 {w : World} {v u : Value} {W : World} (h : Bx w v u W) : W.frozen? ⟨w.heap.size + 1, 0, none⟩ = false := Lib.frozen_of_heap h.b2 0
theorem Bx.made (w : World) (v u : Value) : Bx w v u ((w.alloc (.cells #[v] 26)).alloc (.cells #[u] 26)) := by
  refine ⟨((Kept.refl _ _).alloc _).alloc _, ?_, ?_⟩
  · rw [Below.heap_alloc _ _ _ (by simp)]; exact heap_alloc_new w _
  · have := heap_alloc_new (w.alloc (.cells #[v] 26)) (.cells #[u] 26)
    simpa using this
/-- The answer is stored. -/
theorem Bx.store {w : World} {v u : Value} {W : World} (h : Bx w v u W) (x : Value) {N : Nat} (hN : Nm W x N) :
    (W.setCell ⟨w.heap.size + 1, 0, none⟩ x).cell? ⟨w.heap.size + 1, 0, none⟩ = some x ∧ Nm (W.setCell ⟨w.heap.size + 1, 0, none⟩ x) x N ∧ Fresh w (W.setCell ⟨w.heap.size + 1, 0, none⟩ x) := by
  refine ⟨?_, nm_set hN h.b2 (by decide) _ _, h.fr.setCell (p := ⟨w.heap.size + 1, 0, none⟩) (fun e => by simp at e; omega) _⟩
  rw [Lib.cell_of_heap (heap_setCell_same W (w.heap.size + 1) 0 _ _ x h.b2)]
  rfl

set_option maxHeartbeats 1000000 in
set_option maxRecDepth 100000 in
/-- A power that is not refused at once. -/
theorem natPower_fits (v : Value) (M n : Nat) (w : World) (h : Nm w v M) (hM : 2 ≤ bl M) (hM2 : bl M ≤ 65536) (hn : n < 65536) (hs : (bl M - 1) * n < 65536) :
    Calls Tryz.prog 32 #[.agg #[v], .int .i64 n] w fun e w' => ∃ v', e = .returned (.tuple #[.agg #[v'], .int .i64 (fitE (M ^ n))]) ∧ (Nm w' v' (fitN (M ^ n)) ∧ Fresh w w') := by
  have hbits := fun W (hF : Fresh w W) => natBits_any v M W (h.fresh hF)
  have hpow := fun W (hF : Fresh w W) => power_any v M n W (h.fresh hF) hn (by
    have h1 : n * bl M = (bl M - 1) * n + n := by
      have h2 : bl M = bl M - 1 + 1 := by omega
      rw [Nat.mul_comm n, h2, Nat.add_mul, Nat.one_mul, Nat.add_sub_cancel]
    omega)
  obtain ⟨a, k, c, rfl⟩ := h.shape
  obtain ⟨P, hP⟩ : ∃ P, P = (bl M - 1) * n := ⟨_, rfl⟩
  rw [← hP] at hs
  have hPI : ((bl M : Int) - 1) * (n : Int) = (P : Int) := by
    rw [hP, show (bl M : Int) - 1 = ((bl M - 1 : Nat) : Int) by omega]; simp
  obtain ⟨FE, hFE⟩ : ∃ x, x = fitE (M ^ n) := ⟨_, rfl⟩
  rw [← hFE]
  have HFE := show Hid _ from hFE
  have HB := show Hid _ from Bx.made w (.slice a k c) (.slice none 0 0)
  clear hP h hFE
  generalize bl M = K at *
  have d1 : decide ((K : Int) ≤ 1) = false := by rw [decide_eq_false_iff_not]; omega
  have d2 : decide ((65536 : Int) ≤ (n : Int)) = false := by rw [decide_eq_false_iff_not]; omega
  have d3 : decide ((65536 : Int) ≤ (P : Int)) = false := by rw [decide_eq_false_iff_not]; omega
  go_enter Tryz.func32, Tryz.ntmps32
  go_wp2_with fail
  refine (hbits _ HB.out.fr).mono ?_
  rintro e w1 ⟨rfl, hF1⟩
  have hB1 := Bx.next HB.out hF1
  have hc1 := hB1.c1
  have HB1 := show Hid _ from hB1
  clear HB hF1 hB1
  go_wp2_with fail
  refine (hbits _ HB1.out.fr).mono ?_
  rintro e w2 ⟨rfl, hF2⟩
  have hB2 := Bx.next HB1.out hF2
  have hc2 := hB2.c1
  have HB2 := show Hid _ from hB2
  clear HB1 hF2 hB2 hc1
  go_wp2_with fail
  refine (hpow _ HB2.out.fr).mono ?_
  rintro e w3 ⟨v3, rfl, hN3, hF3⟩
  obtain ⟨a3, k3, c3, rfl⟩ := hN3.shape
  have HB3 := show Hid _ from Bx.next HB2.out hF3
  have hnum := number_any _ _ _ hN3
  rw [← HFE.out] at hnum
  clear HB2 hF3 hN3 hc2
  go_wp2_with fail
  refine hnum.mono ?_
  rintro e w4 ⟨v4, rfl, hN4, hF4⟩
  obtain ⟨a4, k4, c4, rfl⟩ := hN4.shape
  have hB4 := Bx.next HB3.out hF4
  have hc4 := hB4.c2
  have hf4 := hB4.f2
  obtain ⟨r0, r1, r2⟩ := hB4.store _ hN4
  have R1 := show Hid _ from r1
  have R2 := show Hid _ from r2
  clear HB3 hF4 hN4 hB4 r1 r2 hnum
  go_wp2
  exact bodyPost_ret (v := .tuple #[.agg #[.slice a4 k4 c4], .int .i64 FE]) (by simp [results, Tryz.results32, go_sem, r0]) rfl ⟨_, rfl, R1.out, R2.out⟩

set_option maxHeartbeats 1000000 in
set_option maxRecDepth 100000 in
theorem awake_any (w : World) (hT : Pw w) : Calls Tryz.prog 8 #[] w fun e w' => e = .returned (.bool true) ∧ Fresh w w' := by
  have hof := of_any 7 w (by omega)
  have b7 : bl 7 = 3 := by decide
  have bP : bl (7 ^ 20) = 57 := bl_eq (k := 56) (by decide) (by decide)
  obtain ⟨f1, f2⟩ := fit_in (N := 7 ^ 20) (by rw [bP]; omega)
  have HT := show Hid _ from hT
  have htx : (sB (Lib.decDigits (7 ^ 20))) = (⟨#[55, 57, 55, 57, 50, 50, 54, 54, 50, 57, 55, 54, 49, 50, 48, 48, 49]⟩ : ByteArray) := by
    rw [show (7 : Nat) ^ 20 = 79792266297612001 by decide, Lib.decDigits_eq, Lib.nDigits_unique 16 79792266297612001 (by decide) (by decide)]
    decide
  clear hT
  go_enter Tryz.func8, Tryz.ntmps8
  go_wp2_with fail
  refine hof.mono ?_
  rintro e w1 ⟨v1, rfl, hN1, hF1⟩
  obtain ⟨a1, k1, c1, rfl⟩ := hN1.shape
  have hF1' : Fresh w1 (w1.alloc (.cells #[.slice a1 k1 c1] 26)) := (Kept.refl _ _).alloc _
  have hpw := natPower_fits _ 7 20 _ (hN1.fresh hF1') (by omega) (by omega) (by omega) (by rw [b7]; omega)
  rw [f1, f2] at hpw
  have HF1 : Hid (Fresh w (w1.alloc (.cells #[.slice a1 k1 c1] 26))) := hF1.trans hF1' (fun _ _ e => e)
  clear hof hN1 hF1 hF1' f1 f2
  go_wp2_with fail
  refine hpw.mono ?_
  rintro e w2 ⟨v2, rfl, hN2, hF2⟩
  obtain ⟨a2, k2, c2, rfl⟩ := hN2.shape
  have hF2' : Fresh w2 (w2.alloc (.cells #[.slice a2 k2 c2] 26)) := (Kept.refl _ _).alloc _
  have HF2 : Hid (Fresh w (w2.alloc (.cells #[.slice a2 k2 c2] 26))) := (HF1.out.trans hF2 (fun _ _ e => e)).trans hF2' (fun _ _ e => e)
  have hb2 := heap_alloc_new w2 (.cells #[.slice a2 k2 c2] 26)
  have htt := natText_any _ _ _ (hN2.fresh hF2') (by rw [bP]; omega) (Pw.fresh HT.out HF2.out)
  have hbb := fun W (hF : Fresh (w2.alloc (.cells #[.slice a2 k2 c2] 26)) W) => natBits_any _ _ W ((hN2.fresh hF2').fresh hF)
  rw [bP] at hbb
  rw [htx] at htt
  have HB2 := show Hid _ from hb2
  clear hpw HF1 hN2 hF2 hF2' htx hb2 bP b7
  go_wp2_with fail
  refine htt.mono ?_
  rintro e w3 ⟨rfl, hF3⟩
  have hb3 : w3.heap[w2.heap.size]? = some (.cells #[.slice a2 k2 c2] 26 (0, 0)) := hF3.at HB2.out (fun e => e)
  have hc3 := Lib.cell_of_heap hb3 0
  rw [show (#[Value.slice a2 k2 c2] : Array Value)[0]? = some (.slice a2 k2 c2) from rfl] at hc3
  have HF3 : Hid (Fresh w w3) := HF2.out.trans hF3 (fun _ _ e => e)
  have hb4 := hbb w3 hF3
  clear htt hb3 HB2 HF2 hF3 hbb
  go_wp2_with fail
  refine hb4.mono ?_
  rintro e w4 ⟨rfl, hF4⟩
  have HF4 : Hid (Fresh w w4) := HF3.out.trans hF4 (fun _ _ e => e)
  clear hb4 hF4 HF3
  go_wp2
  go_ret
  exact ⟨by simp, HF4.out⟩

/-- A box for the answer. -/
structure Ax (w : World) (u : Value) (W : World) : Prop where
  fr : Fresh w W
  b : W.heap[w.heap.size]? = some (.cells #[u] 26 (0, 0))
theorem Ax.next {w : World} {u : Value} {W W' : World} (h : Ax w u W) (hF : Fresh W W') : Ax w u W' := ⟨h.fr.trans hF (fun _ _ e => e), hF.at h.b (fun e => e)⟩
theorem Ax.c {w : World} {u : Value} {W : World} (h : Ax w u W) : W.cell? ⟨w.heap.size, 0, none⟩ = some u := by rw [Lib.cell_of_heap h.b]; rfl
theorem Ax.f {w : World} {u : Value} {W : World} (h : Ax w u W) : W.frozen? ⟨w.heap.size, 0, none⟩ = false := Lib.frozen_of_heap h.b 0
theorem Ax.made (w : World) (u : Value) : Ax w u (w.alloc (.cells #[u] 26)) := ⟨(Kept.refl _ _).alloc _, heap_alloc_new w _⟩
theorem Ax.store {w : World} {u : Value} {W : World} (h : Ax w u W) (x : Value) {N : Nat} (hN : Nm W x N) :
    (W.setCell ⟨w.heap.size, 0, none⟩ x).cell? ⟨w.heap.size, 0, none⟩ = some x ∧ Nm (W.setCell ⟨w.heap.size, 0, none⟩ x) x N ∧ Fresh w (W.setCell ⟨w.heap.size, 0, none⟩ x) := by
  refine ⟨?_, nm_set hN h.b (by decide) _ _, h.fr.setCell (p := ⟨w.heap.size, 0, none⟩) (fun e => by simp at e) _⟩
  rw [Lib.cell_of_heap (heap_setCell_same W w.heap.size 0 _ _ x h.b)]
  rfl

end Go.Proofs.YtdmjfmipalifpaaGreatDoor
