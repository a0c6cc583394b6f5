/-
  The document's edge.
-/
import Derived.Test.YtdponkpgokncdaaGuu
namespace Go.Proofs.Ytdponkpgokncdaa
open Go.RowKit Go.Lib Go.Maps

set_option maxHeartbeats 1000000 in
set_option maxRecDepth 100000 in
theorem redge_any {p q : Nat → Prop} (A : List Bool) (E : List Ed) (an en : Value) (w : World) (hA : RbL p w an A) (hE : EdR q w en E) (i : Nat) (hi : i < E.length) :
    Calls Try.prog 29 #[.agg #[an, en], zV i] w fun e w' => e = .returned (.bool (reB A.length E i)) ∧ Fresh w w' := by
  obtain ⟨ao, ac, rfl⟩ := hA.shape
  obtain ⟨eo, ec, rfl⟩ := hE.shape
  obtain ⟨bb, off, rfl, _, hbb, hcells⟩ := hE.cells (by omega)
  have HC : Hid (∀ X, Fresh w X → ∀ k, k < E.length → X.cell? ⟨bb, off + k * 4, none⟩ = some (zV (gE E k).f) ∧ X.cell? ⟨bb, off + k * 4 + 1, none⟩ = some (.int .u8 ((gE E k).lo : Int)) ∧ X.cell? ⟨bb, off + k * 4 + 2, none⟩ = some (.int .u8 ((gE E k).hi : Int)) ∧ X.cell? ⟨bb, off + k * 4 + 3, none⟩ = some (zV (gE E k).t)) := fun X hX k hk => by
    obtain ⟨c0, c1, c2, c3⟩ := hcells k hk
    exact ⟨(hX.cell (p := ⟨bb, off + k * 4, none⟩) hbb (fun e => e)).trans c0, (hX.cell (p := ⟨bb, off + k * 4 + 1, none⟩) hbb (fun e => e)).trans c1, (hX.cell (p := ⟨bb, off + k * 4 + 2, none⟩) hbb (fun e => e)).trans c2, (hX.cell (p := ⟨bb, off + k * 4 + 3, none⟩) hbb (fun e => e)).trans c3⟩
  have hk1 : Fresh w (w.alloc (.cells #[.slice ao A.length ac, .slice (some ⟨bb, off, none⟩) E.length ec] 28)) := (Kept.refl _ w).alloc _
  have HKN : Hid (E.length * 24 ≤ 140737488351232) := by obtain ⟨_, _, _, _, _, h, _⟩ := hE; exact h
  obtain ⟨c0, c1, c2, c3⟩ := HC.out _ hk1 i hi
  have HG : Hid (∀ X, Fresh ((w.alloc (.cells #[.slice ao A.length ac, .slice (some ⟨bb, off, none⟩) E.length ec] 28)).alloc (.cells #[zV (gE E i).f, .int .u8 ((gE E i).lo : Int), .int .u8 ((gE E i).hi : Int), zV (gE E i).t] 70)) X → Fresh w X ∧ (X.cell? ⟨w.heap.size, 0, none⟩ = some (.slice ao A.length ac) ∧ X.cell? ⟨w.heap.size, 1, none⟩ = some (.slice (some ⟨bb, off, none⟩) E.length ec)) ∧
      X.cell? ⟨w.heap.size + 1, 0, none⟩ = some (zV (gE E i).f) ∧ X.cell? ⟨w.heap.size + 1, 1, none⟩ = some (.int .u8 ((gE E i).lo : Int)) ∧ X.cell? ⟨w.heap.size + 1, 2, none⟩ = some (.int .u8 ((gE E i).hi : Int)) ∧ X.cell? ⟨w.heap.size + 1, 3, none⟩ = some (zV (gE E i).t)) := fun X hX => by
    have hs1 : (w.alloc (.cells #[.slice ao A.length ac, .slice (some ⟨bb, off, none⟩) E.length ec] 28)).heap.size = w.heap.size + 1 := by rw [World.size_alloc]
    have hk2 : Fresh (w.alloc (.cells #[.slice ao A.length ac, .slice (some ⟨bb, off, none⟩) E.length ec] 28)) X := ((Kept.refl (fun _ => False) _).alloc _).trans hX (fun _ _ e => e)
    have h1 := hk2.at (heap_alloc_new w (.cells #[.slice ao A.length ac, .slice (some ⟨bb, off, none⟩) E.length ec] 28)) (fun e => e)
    have h2 := hX.at (heap_alloc_new (w.alloc (.cells #[.slice ao A.length ac, .slice (some ⟨bb, off, none⟩) E.length ec] 28)) (.cells #[zV (gE E i).f, .int .u8 ((gE E i).lo : Int), .int .u8 ((gE E i).hi : Int), zV (gE E i).t] 70)) (fun e => e)
    rw [hs1] at h2
    exact ⟨hk1.trans hk2 (fun _ _ e => e), ⟨by rw [Lib.cell_of_heap h1]; rfl, by rw [Lib.cell_of_heap h1]; rfl⟩, by rw [Lib.cell_of_heap h2]; rfl, by rw [Lib.cell_of_heap h2]; rfl, by rw [Lib.cell_of_heap h2]; rfl, by rw [Lib.cell_of_heap h2]; rfl⟩
  have HR : Hid (reB A.length E i = (fitB A.length (gE E i) && noL E (gE E i) i)) := rfl
  generalize reB A.length E i = R at *
  clear hA hE hcells hbb hk1
  obtain ⟨e, he⟩ : ∃ e, e = gE E i := ⟨_, rfl⟩
  rw [← he] at c0 c1 c2 c3 HG HR
  have HEQ : Hid (e = gE E i) := he
  clear he
  have hiN : (i : Int) < (E.length : Int) := by omega
  have HIK : Hid (i < E.length) := hi
  clear hi
  generalize A.length = n at *
  generalize hkl : E.length = k at *
  clear hkl
  have hk9 : k * 24 ≤ 140737488351232 := HKN.out
  have S1 : Hid (∀ (X : World) (s : Int), Calls Try.prog 31 #[.agg #[.slice ao n ac, .slice (some ⟨bb, off, none⟩) k ec], zV s] X fun e w' => e = .returned (.bool (decide (0 ≤ s) && decide (s < (n : Int)))) ∧ w' = X.alloc (.cells #[.slice ao n ac, .slice (some ⟨bb, off, none⟩) k ec] 28)) := fun X s => rstate_any _ _ _ _ _ _ s X
  go_enter Try.func29, Try.ntmps29
  go_upto_region 2 with fail
  clear c0 c1 c2 c3
  generalize ((w.alloc (.cells #[.slice ao n ac, .slice (some ⟨bb, off, none⟩) k ec] 28)).alloc (.cells #[zV e.f, .int .u8 (e.lo : Int), .int .u8 (e.hi : Int), zV e.t] 70)) = W2 at *
  obtain ⟨hf0, ⟨g0, g1⟩, e0, e1, e2, e3⟩ := HG.out W2 (Kept.refl _ _)
  have C0 := show Hid _ from S1.out W2 e.f
  clear hf0
  by_cases h0 : 0 ≤ e.f ∧ e.f < (n : Int)
  · have d0 : (decide (0 ≤ e.f) && decide (e.f < (n : Int))) = true := by rw [decide_eq_true h0.1, decide_eq_true h0.2]; rfl
    rw [d0] at C0
    go_wp2_with fail
    refine Calls.mono C0.out ?_
    rintro r X ⟨rfl, rfl⟩
    have hX : Fresh W2 (W2.alloc (.cells #[.slice ao n ac, .slice (some ⟨bb, off, none⟩) k ec] 28)) := (Kept.refl _ _).alloc _
    generalize W2.alloc (.cells #[.slice ao n ac, .slice (some ⟨bb, off, none⟩) k ec] 28) = X at *
    obtain ⟨_, ⟨g0, g1⟩, e0, e1, e2, e3⟩ := HG.out X hX
    have C1 := show Hid _ from S1.out X e.t
    by_cases h1 : 0 ≤ e.t ∧ e.t < (n : Int)
    · have d1 : (decide (0 ≤ e.t) && decide (e.t < (n : Int))) = true := by rw [decide_eq_true h1.1, decide_eq_true h1.2]; rfl
      rw [d1] at C1
      go_wp2_with fail
      refine Calls.mono C1.out ?_
      rintro r X2 ⟨rfl, rfl⟩
      have hX2 : Fresh W2 (X.alloc (.cells #[.slice ao n ac, .slice (some ⟨bb, off, none⟩) k ec] 28)) := hX.alloc _
      generalize X.alloc (.cells #[.slice ao n ac, .slice (some ⟨bb, off, none⟩) k ec] 28) = X2 at *
      obtain ⟨hfx, ⟨g0, g1⟩, e0, e1, e2, e3⟩ := HG.out X2 hX2
      have HX2 := show Hid _ from hX2
      have HFX := show Hid _ from hfx
      clear hX hX2 hfx C0 C1 d0 d1
      by_cases h2 : e.lo ≤ e.hi
      · have hL : fitB n e = true := fitB_iff.2 ⟨h0.1, h0.2, h1.1, h1.2, h2⟩
        have HR2 : Hid (R = noL E e i) := by
          have := HR.out
          rw [hL] at this
          exact this
        have dd : decide (e.hi < e.lo) = false := decide_eq_false (by omega)
        clear hL HR h0 h1 h2
        go_wp2
        clear dd e0 e1 e2 e3 g0 g1
        go_loopw [6] (fun jv wr => ∃ j : Nat, j ≤ i ∧ jv = zV j ∧ Hid (Fresh W2 wr) ∧ Hid (noL E e j = true)) (fun jv _ => i - (RowKit.intOf jv).toNat)
        case atStart => exact ⟨0, Nat.zero_le _, rfl, HX2.out, rfl⟩
        case round =>
          obtain ⟨j, hj, rfl, HF, HNL⟩ := hrel
          obtain ⟨hfx, ⟨g0, g1⟩, e0, e1, e2, e3⟩ := HG.out wr HF.out
          by_cases hlt : j < i
          · have hlt' : (j : Int) < (i : Int) := by omega
            have hjk : (j : Int) < (k : Int) := by omega
            obtain ⟨c0, c1, c2, c3⟩ := HC.out wr hfx j (by have := HIK.out; omega)
            have hF2 : Fresh W2 (wr.alloc (.cells #[zV (gE E j).f, .int .u8 ((gE E j).lo : Int), .int .u8 ((gE E j).hi : Int), zV (gE E j).t] 70)) := HF.out.alloc _
            have HF2 := show Hid _ from hF2
            obtain ⟨hfx2, ⟨_, _⟩, e0, e1, e2, e3⟩ := HG.out _ hF2
            have HFw := show Hid _ from hfx2
            have HLB : Hid (lapB (gE E j) e = ((decide ((gE E j).f = e.f) && decide ((gE E j).lo ≤ e.hi)) && decide (e.lo ≤ (gE E j).hi))) := rfl
            have HNX : Hid (lapB (gE E j) e = false → noL E e (j + 1) = true) := fun h => by
              show (noL E e j && !lapB (gE E j) e) = true
              rw [HNL.out, h]
              rfl
            have HNS : Hid (lapB (gE E j) e = true → noL E e i = false) := fun h => noL_stop hlt h
            clear hfx hfx2 hF2 HF HNL
            generalize lapB (gE E j) e = LB at *
            have hj9 : k ≤ 5864062014806 := by omega
            have HEF : Hid (noL E e i = R) := HR2.out.symm
            generalize hjf : (gE E j).f = jf at *
            generalize (gE E j).lo = jl at *
            generalize (gE E j).hi = jh at *
            generalize (gE E j).t = jt at *
            clear hjf
            generalize e.f = ef at *
            generalize e.lo = el at *
            generalize e.hi = eh at *
            by_cases q1 : jf = ef
            · subst q1
              have dk : (jf == jf) = true := beq_self_eq_true _
              have dz : decide (jf = jf) = true := decide_eq_true rfl
              by_cases q2 : jl ≤ eh
              · have d2 : decide (jl ≤ eh) = true := decide_eq_true q2
                by_cases q3 : el ≤ jh
                · have d3 : decide (el ≤ jh) = true := decide_eq_true q3
                  have HT : Hid (R = false) := HEF.out.symm.trans (HNS.out (by rw [HLB.out, dz, d2, d3]; rfl))
                  clear HNX HNS HLB HR2 HC HG HEQ HEF q2 q3
                  go_wp2
                  go_ret
                  exact ⟨by rw [HT.out]; rfl, HFw.out⟩
                · have d3 : decide (el ≤ jh) = false := decide_eq_false q3
                  have HLF : LB = false := by rw [HLB.out, dz, d2, d3]; rfl
                  clear q2 q3 HEF
                  have HN1 : Hid (noL E e (j + 1) = true) := HNX.out HLF
                  clear HLF HNX HNS HLB HR2 HC HG HEQ
                  go_wp2
                  go_roundw
                  case rel => exact ⟨j + 1, hlt, by go_num, HF2.out, HN1.out⟩
                  case measure => simp [RowKit.intOf]; omega
              · have d2 : decide (jl ≤ eh) = false := decide_eq_false q2
                have HLF : LB = false := by rw [HLB.out, dz, d2]; rfl
                clear q2 HEF
                have HN1 : Hid (noL E e (j + 1) = true) := HNX.out HLF
                clear HLF HNX HNS HLB HR2 HC HG HEQ
                go_wp2
                go_roundw
                case rel => exact ⟨j + 1, hlt, by go_num, HF2.out, HN1.out⟩
                case measure => simp [RowKit.intOf]; omega
            · have dk : (jf == ef) = false := beq_eq_false_iff_ne.2 q1
              have HLF : LB = false := by rw [HLB.out, decide_eq_false q1]; rfl
              clear q1 HEF
              have HN1 : Hid (noL E e (j + 1) = true) := HNX.out HLF
              clear HLF HNX HNS HLB HR2 HC HG HEQ
              go_wp2
              go_roundw
              case rel => exact ⟨j + 1, hlt, by go_num, HF2.out, HN1.out⟩
              case measure => simp [RowKit.intOf]; omega
          · obtain rfl : j = i := by omega
            have hlt' : ¬ ((j : Int) < (j : Int)) := by omega
            have HT : Hid (R = true) := HR2.out.trans HNL.out
            have HFx := show Hid _ from hfx
            clear hfx HNL HR2 e0 e1 e2 e3 g0 g1
            go_wp2
            go_ret
            exact ⟨by rw [HT.out]; rfl, HFx.out⟩
      · have hL : Hid (R = false) := by
          have := HR.out
          unfold fitB at this
          rw [decide_eq_false h2] at this
          show R = false
          simpa using this
        have dd : decide (e.hi < e.lo) = true := decide_eq_true (by omega)
        clear h0 h1 h2 HR
        go_wp2
        go_ret
        exact ⟨by rw [hL.out]; rfl, HFX.out⟩
    · have d1 : (decide (0 ≤ e.t) && decide (e.t < (n : Int))) = false := by
        by_cases e1 : 0 ≤ e.t
        · rw [decide_eq_true e1, decide_eq_false (fun e2 => h1 ⟨e1, e2⟩)]; rfl
        · rw [decide_eq_false e1]; rfl
      rw [d1] at C1
      have hL : Hid (R = false) := by
        have := HR.out
        unfold fitB at this
        rw [Bool.and_assoc (decide (0 ≤ e.f) && decide (e.f < (n : Int))), d1] at this
        show R = false
        simpa using this
      go_wp2_with fail
      refine Calls.mono C1.out ?_
      rintro r X2 ⟨rfl, rfl⟩
      have hX2 : Fresh W2 (X.alloc (.cells #[.slice ao n ac, .slice (some ⟨bb, off, none⟩) k ec] 28)) := hX.alloc _
      generalize X.alloc (.cells #[.slice ao n ac, .slice (some ⟨bb, off, none⟩) k ec] 28) = X2 at *
      have HFX := show Hid _ from (HG.out X2 hX2).1
      clear hX hX2 C0 C1 d0 d1 h0 h1
      go_wp2
      go_ret
      exact ⟨by rw [hL.out]; rfl, HFX.out⟩
  · have d0 : (decide (0 ≤ e.f) && decide (e.f < (n : Int))) = false := by
      by_cases e1 : 0 ≤ e.f
      · rw [decide_eq_true e1, decide_eq_false (fun e2 => h0 ⟨e1, e2⟩)]; rfl
      · rw [decide_eq_false e1]; rfl
    rw [d0] at C0
    have hL : Hid (R = false) := by
      have := HR.out
      unfold fitB at this
      rw [d0] at this
      show R = false
      simpa using this
    go_wp2_with fail
    refine Calls.mono C0.out ?_
    rintro r X ⟨rfl, rfl⟩
    have hX : Fresh W2 (W2.alloc (.cells #[.slice ao n ac, .slice (some ⟨bb, off, none⟩) k ec] 28)) := (Kept.refl _ _).alloc _
    generalize W2.alloc (.cells #[.slice ao n ac, .slice (some ⟨bb, off, none⟩) k ec] 28) = X at *
    have HFX := show Hid _ from (HG.out X hX).1
    clear hX C0 d0 h0
    go_wp2
    go_ret
    exact ⟨by rw [hL.out]; rfl, HFX.out⟩
end Go.Proofs.Ytdponkpgokncdaa
