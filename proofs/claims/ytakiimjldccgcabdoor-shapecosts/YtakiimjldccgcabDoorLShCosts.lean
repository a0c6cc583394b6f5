/-
  For every shape, number of places and name the statement ShapeCosts answers true: awake does; Costs and Preset are the document's; fewer places cost less; its card, tied to the program's text.
-/
import Derived.Test.YtakiimjldccgcabDoorShXToShLa
import Derived.Test.YtakiimjldccgcabDoorShCcToShCd
import Derived.Test.YtakiimjldccgcabDoorVcNToFrQ
import Derived.Deep.DeepHandedRow
import Derived.Deep.DeepCutAuto
namespace Go.Proofs.YtakiimjldccgcabDoor.ShCosts
open Go.ChangeShapes Go.WideShapes Go.ChangeAt Go.RowKit Go.Lib Go.Maps

theorem ps_two (t : ByteArray) : (psE t = 0 ∧ shE (psS t) = 0) ∨ psE t = 160 := by
  rcases ps_cases t with ⟨_, h1, h2⟩ | ⟨_, h1, h2⟩ | ⟨_, h1, h2⟩ | ⟨_, h1, h2⟩ | ⟨_, _, _, _, h1, h2⟩
  all_goals first
    | exact .inl ⟨h2, by rw [h1]; decide⟩
    | exact .inr h2
theorem cs_less {s : Shp} {p : Int} (h : csE s p = 0) (h1 : 1 ≤ p) : csE s (p - 1) = 0 ∧ csP s (p - 1) < csP s p ∧ csA s (p - 1) < csA s p ∧ csN s (p - 1) = csN s p := by
  obtain ⟨hb, h2, h3⟩ := csE_zero h
  have h4 : csE s (p - 1) = 0 := csE_in hb ⟨by omega, by omega⟩
  obtain ⟨a1, a2, a3, _⟩ := cs_ok h
  obtain ⟨c1, c2, c3, _⟩ := cs_ok h4
  obtain ⟨_, _, hd, _, hl, _⟩ := (shB_iff s).1 hb
  have hm : 2 * s.d * p = 2 * s.d * (p - 1) + 2 * s.d := by rw [Int.mul_sub, Int.mul_one]; omega
  have hlt : 2 * s.d * (p - 1) < 2 * s.d * p := by omega
  refine ⟨h4, ?_, ?_, by rw [a1, c1]⟩
  · rw [a2, c2]
    exact Int.mul_lt_mul_of_pos_left hlt (by omega)
  · rw [a3, c3]
    exact Int.mul_lt_mul_of_pos_left (by omega) (by omega)
set_option maxHeartbeats 4000000 in
set_option maxRecDepth 100000 in
theorem walk (s : Shp) (p : Int) (t : ByteArray) (w : World) (hS : Sin w) (hB : Bend w) (hI : I64 p) :
    Calls Tryd.prog 3 #[s.val, zV p, .string t] w fun e w' => e = .returned (.bool true) ∧ Fresh w w' := by
  have HA : Hid (∀ X, Fresh w X → _) := fun X hX => awake_any X (hS.fresh hX) (hB.fresh hX)
  have HC : Hid (∀ (q : Int) (X : World), _) := fun q X => Costs_any s q X
  have HRC : Hid (∀ X, _) := fun X => refCosts_any s p X
  have HP : Hid (∀ X, _) := fun X => plain_any s X
  have HPS : Hid (∀ X, _) := fun X => Preset_any t X
  have HRPS : Hid (∀ X, _) := fun X => refPreset_any t X
  have HPX : Hid (∀ X, _) := fun X => plain_any (psS t) X
  have HCX : Hid (∀ X, Calls Tryd.prog 11 #[(psS t).val] X fun e w' => e = .returned (zV (shE (psS t))) ∧ Fresh X w') := fun X => (Check_any (psS t) X).mono fun e w' ⟨h1, h2⟩ => ⟨h1, by rw [h2]; exact (Kept.refl _ X).alloc _⟩
  have HTWO := show Hid _ from ps_two t
  have HLESS : Hid (csE s p = 0 → 1 ≤ p → _) := fun h h1 => cs_less (s := s) (p := p) h h1
  have HBX : Hid (∀ X, Fresh (w.alloc (.cells #[zV s.v, zV s.c, zV s.d, zV s.h, zV s.l, zV s.n] 23)) X → Fresh w X ∧ X.cell? ⟨w.heap.size, 0, none⟩ = some (zV s.v) ∧ X.cell? ⟨w.heap.size, 1, none⟩ = some (zV s.c) ∧ X.cell? ⟨w.heap.size, 2, none⟩ = some (zV s.d) ∧ X.cell? ⟨w.heap.size, 3, none⟩ = some (zV s.h) ∧ X.cell? ⟨w.heap.size, 4, none⟩ = some (zV s.l) ∧ X.cell? ⟨w.heap.size, 5, none⟩ = some (zV s.n)) := fun X hX => by
    have hb := hX.at (heap_alloc_new w (.cells #[zV s.v, zV s.c, zV s.d, zV s.h, zV s.l, zV s.n] 23)) (fun e => e)
    exact ⟨((Kept.refl _ w).alloc _).trans hX (fun _ _ e => e), by rw [Lib.cell_of_heap hb]; rfl, by rw [Lib.cell_of_heap hb]; rfl, by rw [Lib.cell_of_heap hb]; rfl, by rw [Lib.cell_of_heap hb]; rfl, by rw [Lib.cell_of_heap hb]; rfl, by rw [Lib.cell_of_heap hb]; rfl⟩
  obtain ⟨cn, hcn⟩ : ∃ f : Int → Int, csN s = f := ⟨_, rfl⟩
  obtain ⟨cp, hcp⟩ : ∃ f : Int → Int, csP s = f := ⟨_, rfl⟩
  obtain ⟨ca, hca⟩ : ∃ f : Int → Int, csA s = f := ⟨_, rfl⟩
  obtain ⟨cc, hcc⟩ : ∃ f : Int → Int, csS s = f := ⟨_, rfl⟩
  obtain ⟨ce, hce⟩ : ∃ f : Int → Int, csE s = f := ⟨_, rfl⟩
  rw [hcn, hcp, hca, hcc, hce] at HC HRC
  rw [hcn, hcp, hca, hce] at HLESS
  clear hcn hcp hca hcc hce hS hB
  generalize shE (psS t) = xe at *
  generalize psE t = pe at *
  generalize psS t = ps at *
  obtain ⟨v, c, d, h, l, n⟩ := s
  obtain ⟨a1, a2, a3, a4, a5, a6⟩ := ps
  unfold Shp.val at *
  simp only at *
  obtain ⟨hi1, hi2⟩ := hI
  have HC0 := show Hid _ from HC.out p
  obtain ⟨N0, hN0⟩ : ∃ x, cn p = x := ⟨_, rfl⟩
  obtain ⟨P0, hP0⟩ : ∃ x, cp p = x := ⟨_, rfl⟩
  obtain ⟨A0, hA0⟩ : ∃ x, ca p = x := ⟨_, rfl⟩
  obtain ⟨S0, hS0⟩ : ∃ x, cc p = x := ⟨_, rfl⟩
  obtain ⟨E0, hE0⟩ : ∃ x, ce p = x := ⟨_, rfl⟩
  rw [hN0, hP0, hA0, hS0, hE0] at HC0 HRC
  rw [hN0, hP0, hA0, hE0] at HLESS
  clear hN0 hP0 hA0 hS0 hE0
  go_enter Tryd.func3, Tryd.ntmps3
  go_upto_region 1 with fail
  have hW0 := (HBX.out _ (Kept.refl _ _)).1
  generalize w.alloc (.cells #[zV v, zV c, zV d, zV h, zV l, zV n] 23) = W0 at *
  go_wp2_with fail
  refine Calls.mono (HA.out W0 hW0) ?_
  rintro e X1 ⟨rfl, hf1⟩
  have HF1 : Hid (Fresh W0 X1) := hf1
  clear hf1 hW0 HA
  go_upto_region 3 with fail
  obtain ⟨_, c0, c1, c2, c3, c4, c5⟩ := HBX.out X1 HF1.out
  go_wp2_with fail
  refine Calls.mono (HC0.out _) ?_
  rintro e X2 ⟨rfl, hf2⟩
  have HF2 : Hid (Fresh W0 X2) := HF1.out.trans hf2 (fun _ _ e => e)
  clear hf2 HF1 c0 c1 c2 c3 c4 c5 HC0
  go_upto_region 4 with fail
  have hq1 := heap_alloc_new X2 (.cells #[zV N0, zV P0, zV A0, zV S0] 26)
  have hF3 : Fresh W0 (X2.alloc (.cells #[zV N0, zV P0, zV A0, zV S0] 26)) := HF2.out.alloc _
  generalize X2.alloc (.cells #[zV N0, zV P0, zV A0, zV S0] 26) = W3 at *
  generalize X2.heap.size = q1 at *
  obtain ⟨_, c0, c1, c2, c3, c4, c5⟩ := HBX.out W3 hF3
  have HF3 := show Hid _ from hF3
  have HQ1 := show Hid _ from hq1
  clear hF3 hq1 HF2
  go_wp2_with fail
  refine Calls.mono (HP.out _) ?_
  rintro e X4 ⟨rfl, hf4⟩
  have HF4 : Hid (Fresh W3 X4) := hf4
  clear hf4 c0 c1 c2 c3 c4 c5 HP
  go_wp2_with fail
  refine Calls.mono (HRC.out _) ?_
  rintro e X5 ⟨rfl, hf5⟩
  have HF5 : Hid (Fresh W3 X5) := HF4.out.trans hf5 (fun _ _ e => e)
  clear hf5 HRC HF4
  go_upto_region 5 with fail
  have hq2 := heap_alloc_new X5 (.cells #[zV N0, zV P0, zV A0, zV S0] 30)
  have hF6 : Fresh W3 (X5.alloc (.cells #[zV N0, zV P0, zV A0, zV S0] 30)) := HF5.out.alloc _
  generalize X5.alloc (.cells #[zV N0, zV P0, zV A0, zV S0] 30) = W6 at *
  generalize X5.heap.size = q2 at *
  have h1 := hF6.at HQ1.out (fun e => e)
  have y0 : W6.cell? ⟨q1, 0, none⟩ = some (zV N0) := by rw [Lib.cell_of_heap h1]; rfl
  have y1 : W6.cell? ⟨q1, 1, none⟩ = some (zV P0) := by rw [Lib.cell_of_heap h1]; rfl
  have y2 : W6.cell? ⟨q1, 2, none⟩ = some (zV A0) := by rw [Lib.cell_of_heap h1]; rfl
  have y3 : W6.cell? ⟨q1, 3, none⟩ = some (zV S0) := by rw [Lib.cell_of_heap h1]; rfl
  have z0 : W6.cell? ⟨q2, 0, none⟩ = some (zV N0) := by rw [Lib.cell_of_heap hq2]; rfl
  have z1 : W6.cell? ⟨q2, 1, none⟩ = some (zV P0) := by rw [Lib.cell_of_heap hq2]; rfl
  have z2 : W6.cell? ⟨q2, 2, none⟩ = some (zV A0) := by rw [Lib.cell_of_heap hq2]; rfl
  have z3 : W6.cell? ⟨q2, 3, none⟩ = some (zV S0) := by rw [Lib.cell_of_heap hq2]; rfl
  have HF6 : Hid (Fresh W0 W6) := HF3.out.trans hF6 (fun _ _ e => e)
  have HQ6 := show Hid _ from h1
  have n1 : (N0 != N0) = false := by simp
  have n2 : (P0 != P0) = false := by simp
  have n3 : (A0 != A0) = false := by simp
  have n4 : (S0 != S0) = false := by simp
  have n5 : (E0 != E0) = false := by simp
  clear hF6 hq2 h1 HF3 HQ1 HF5
  go_upto_region 7 with fail
  clear y0 y1 y2 y3 z0 z1 z2 z3 n1 n2 n3 n4 n5
  go_wp2_with fail
  refine Calls.mono (HPS.out _) ?_
  rintro e X7 ⟨rfl, hf7⟩
  have HF7 : Hid (Fresh W6 X7) := hf7
  clear hf7 HPS
  go_upto_region 8 with fail
  have hq3 := heap_alloc_new X7 (.cells #[zV a1, zV a2, zV a3, zV a4, zV a5, zV a6] 23)
  have hF8 : Fresh W6 (X7.alloc (.cells #[zV a1, zV a2, zV a3, zV a4, zV a5, zV a6] 23)) := HF7.out.alloc _
  generalize X7.alloc (.cells #[zV a1, zV a2, zV a3, zV a4, zV a5, zV a6] 23) = W8 at *
  generalize X7.heap.size = q3 at *
  have HF8 := show Hid _ from hF8
  have HQ3 := show Hid _ from hq3
  clear hF8 hq3 HF7
  go_wp2_with fail
  refine Calls.mono (HRPS.out _) ?_
  rintro e X9 ⟨rfl, hf9⟩
  have HF9 : Hid (Fresh W8 X9) := hf9
  clear hf9 HRPS
  go_upto_region 9 with fail
  have hq4 := heap_alloc_new X9 (.cells #[zV a1, zV a2, zV a3, zV a4, zV a5, zV a6] 33)
  have hFA : Fresh W8 (X9.alloc (.cells #[zV a1, zV a2, zV a3, zV a4, zV a5, zV a6] 33)) := HF9.out.alloc _
  generalize X9.alloc (.cells #[zV a1, zV a2, zV a3, zV a4, zV a5, zV a6] 33) = WA at *
  generalize X9.heap.size = q4 at *
  have h3 := hFA.at HQ3.out (fun e => e)
  have HB3 : Hid (∀ q : Nw WA, q.w.heap[q3]? = some (.cells #[zV a1, zV a2, zV a3, zV a4, zV a5, zV a6] 23 (0, 0))) := fun q => q.f.at h3 (fun e => e)
  have HB4 : Hid (∀ q : Nw WA, q.w.heap[q4]? = some (.cells #[zV a1, zV a2, zV a3, zV a4, zV a5, zV a6] 33 (0, 0))) := fun q => q.f.at hq4 (fun e => e)
  have HFA : Hid (Fresh W6 WA) := HF8.out.trans hFA (fun _ _ e => e)
  clear hFA hq4 h3 HF8 HQ3 HF9
  go_cut [89] (fun bv w' => bv = .bool false ∧ Hid (Fresh W6 w'))
  case first =>
    have u0 : ∀ q : Nw WA, q.w.cell? ⟨q3, 0, none⟩ = some (zV a1) := fun q => by rw [Lib.cell_of_heap (HB3.out q)]; rfl
    have u1 : ∀ q : Nw WA, q.w.cell? ⟨q3, 1, none⟩ = some (zV a2) := fun q => by rw [Lib.cell_of_heap (HB3.out q)]; rfl
    have u2 : ∀ q : Nw WA, q.w.cell? ⟨q3, 2, none⟩ = some (zV a3) := fun q => by rw [Lib.cell_of_heap (HB3.out q)]; rfl
    have u3 : ∀ q : Nw WA, q.w.cell? ⟨q3, 3, none⟩ = some (zV a4) := fun q => by rw [Lib.cell_of_heap (HB3.out q)]; rfl
    have u4 : ∀ q : Nw WA, q.w.cell? ⟨q3, 4, none⟩ = some (zV a5) := fun q => by rw [Lib.cell_of_heap (HB3.out q)]; rfl
    have u5 : ∀ q : Nw WA, q.w.cell? ⟨q3, 5, none⟩ = some (zV a6) := fun q => by rw [Lib.cell_of_heap (HB3.out q)]; rfl
    have t0 : ∀ q : Nw WA, q.w.cell? ⟨q4, 0, none⟩ = some (zV a1) := fun q => by rw [Lib.cell_of_heap (HB4.out q)]; rfl
    have t1 : ∀ q : Nw WA, q.w.cell? ⟨q4, 1, none⟩ = some (zV a2) := fun q => by rw [Lib.cell_of_heap (HB4.out q)]; rfl
    have t2 : ∀ q : Nw WA, q.w.cell? ⟨q4, 2, none⟩ = some (zV a3) := fun q => by rw [Lib.cell_of_heap (HB4.out q)]; rfl
    have t3 : ∀ q : Nw WA, q.w.cell? ⟨q4, 3, none⟩ = some (zV a4) := fun q => by rw [Lib.cell_of_heap (HB4.out q)]; rfl
    have t4 : ∀ q : Nw WA, q.w.cell? ⟨q4, 4, none⟩ = some (zV a5) := fun q => by rw [Lib.cell_of_heap (HB4.out q)]; rfl
    have t5 : ∀ q : Nw WA, q.w.cell? ⟨q4, 5, none⟩ = some (zV a6) := fun q => by rw [Lib.cell_of_heap (HB4.out q)]; rfl
    have K0 : Hid (∀ q : Nw WA, _) := fun q => HPX.out q.w
    have K1 : Hid (∀ q : Nw WA, _) := fun q => HCX.out q.w
    have HFQ : Hid (∀ q : Nw WA, Fresh W6 q.w) := fun q => HFA.out.trans q.f (fun _ _ e => e)
    have n1 : (pe != pe) = false := by simp
    haveI : Nonempty (Nw WA) := nw_some WA
    rcases HTWO.out with ⟨h1, h2⟩ | h1
    · subst h1 h2
      clear HB3 HB4 HFA HPX HCX HTWO n1
      refine wp_region_new (by kernel_rfl) (by kernel_rfl) ?_
      repeat (go_big_quiet_step ((first | (with_reducible exact Calls.new_of (K0.out _)) | (with_reducible exact Calls.new_of (K1.out _)))))
      refine wpQuiet_nil ?_
      intro _ hw'
      obtain ⟨dq, hw''⟩ := hw'
      subst hw''
      go_wp2
      go_meet
      case rel => exact ⟨by simp, HFQ.out dq⟩
    · subst h1
      clear HB3 HB4 HFA HPX HCX HTWO n1
      refine wp_region_new (by kernel_rfl) (by kernel_rfl) ?_
      repeat (go_big_quiet_step ((first | (with_reducible exact Calls.new_of (K0.out _)) | (with_reducible exact Calls.new_of (K1.out _)))))
      refine wpQuiet_nil ?_
      intro _ hw'
      obtain ⟨dq, hw''⟩ := hw'
      subst hw''
      go_wp2
      go_meet
      case rel => exact ⟨by simp, HFQ.out dq⟩
  case rest =>
    obtain ⟨rfl, HB⟩ := hcut
    clear HB3 HB4 HFA HPX HCX HTWO
    generalize hwc : wc = WB at *
    clear hwc
    have HFB : Hid (Fresh w WB) := (HBX.out WB ((HF6.out).trans HB.out (fun _ _ e => e))).1
    by_cases hE : E0 = 0
    · by_cases hp : p < 1
      · subst hE
        clear HLESS HC
        go_wp2
        go_ret
        exact ⟨rfl, HFB.out⟩
      · obtain ⟨g1, g2, g3, g4⟩ := HLESS.out hE (by omega)
        subst hE
        have HCL := show Hid _ from HC.out (p - 1)
        generalize cn (p - 1) = N1 at *
        generalize cp (p - 1) = P1 at *
        generalize ca (p - 1) = A1 at *
        generalize cc (p - 1) = S1 at *
        generalize ce (p - 1) = E1 at *
        subst g1 g4
        have w1 : IntKind.i64.wrap (p - 1) = p - 1 := by rw [IntKind.wrap_i64]; omega
        have HG2 : Hid (decide (P1 < P0) = true) := decide_eq_true g2
        have HG3 : Hid (decide (A1 < A0) = true) := decide_eq_true g3
        clear HLESS HC
        go_upto_region 13 with fail
        obtain ⟨_, c0, c1, c2, c3, c4, c5⟩ := HBX.out WB ((HF6.out).trans HB.out (fun _ _ e => e))
        go_wp2_with fail
        refine Calls.mono (HCL.out _) ?_
        rintro e XC ⟨rfl, hfC⟩
        have h1 := (HB.out.trans hfC (fun _ _ e => e)).at HQ6.out (fun e => e)
        have HFC : Hid (Fresh w XC) := HFB.out.trans hfC (fun _ _ e => e)
        clear hfC c0 c1 c2 c3 c4 c5 HCL
        go_upto_region 14 with fail
        have hq5 := heap_alloc_new XC (.cells #[zV N1, zV P1, zV A1, zV S1] 26)
        have hFD : Fresh XC (XC.alloc (.cells #[zV N1, zV P1, zV A1, zV S1] 26)) := (Kept.refl _ XC).alloc _
        have h2 := hFD.at h1 (fun e => e)
        have HFD : Hid (Fresh w (XC.alloc (.cells #[zV N1, zV P1, zV A1, zV S1] 26))) := HFC.out.trans hFD (fun _ _ e => e)
        generalize XC.alloc (.cells #[zV N1, zV P1, zV A1, zV S1] 26) = WD at *
        generalize XC.heap.size = q5 at *
        have y0 : WD.cell? ⟨q1, 0, none⟩ = some (zV N1) := by rw [Lib.cell_of_heap h2]; rfl
        have y1 : WD.cell? ⟨q1, 1, none⟩ = some (zV P0) := by rw [Lib.cell_of_heap h2]; rfl
        have y2 : WD.cell? ⟨q1, 2, none⟩ = some (zV A0) := by rw [Lib.cell_of_heap h2]; rfl
        have z0 : WD.cell? ⟨q5, 0, none⟩ = some (zV N1) := by rw [Lib.cell_of_heap hq5]; rfl
        have z1 : WD.cell? ⟨q5, 1, none⟩ = some (zV P1) := by rw [Lib.cell_of_heap hq5]; rfl
        have z2 : WD.cell? ⟨q5, 2, none⟩ = some (zV A1) := by rw [Lib.cell_of_heap hq5]; rfl
        have n1 : (N1 == N1) = true := beq_self_eq_true _
        clear hq5 hFD h1 h2 HQ6 HFC
        go_wp2
        go_ret
        exact ⟨rfl, HFD.out⟩
    · have hne : (E0 != 0) = true := bne_iff_ne.2 hE
      clear HLESS HC hE
      go_wp2
      go_ret
      exact ⟨rfl, HFB.out⟩

set_option maxRecDepth 100000 in
theorem contract (H : Type) (enc : TypeId × Value → H) (W : World) (base : Nat) (args : Array Value) (ds gs : List (DataW H)) (before : List MemPlace)
    (hval : ∀ (j : Nat) t v, Tryd.f3.params[j]? = some t → args[j]? = some v → Value.okWide Tryd.prog W .any base t v)
    (hW : DataW.Whole enc Tryd.prog Tryd.f3.params.toList Rows.shapeCostsSpec.vars false W args.toList ds gs before) 
    (hsz : (DataW.weightsEach Tryd.prog (Tryd.f3.params.toList ++ []) (ds ++ gs)).all (· ≤ reachBytes) = true) (hL : laidMetH Tryd.prog Rows.shapeCostsRow.laid W) :
    Calls Tryd.prog 3 args W fun e W' => ∃ v, e = .returned v ∧ Rows.shapeCostsSpec.post enc Tryd.prog Tryd.f3 false true false false W args v W' := by
  have hW' := hW
  obtain ⟨p, q, hA0, hV, rfl, hfz, hnd⟩ := hW
  have hA : DataW.TrodAll enc Tryd.prog W 0 (fun _ => true) true Tryd.f3.params.toList args.toList ds p := hA0
  rw [Tryd.params3] at hA hval hsz
  obtain ⟨rfl, rfl⟩ := trodVars_none hV
  obtain ⟨v0, v1, v2, d0, d1, d2, p0, p1, p2, rfl, rfl, rfl, h0, h1, h2⟩ := trodAll_three hA
  obtain ⟨s, rfl, _⟩ := shp_of (hval 0 23 v0 rfl rfl) h0
  obtain ⟨x1, rfl, rfl, rfl, w1⟩ := open_int Tryd.underlying3 (hval 1 3 v1 rfl rfl) h1
  obtain ⟨t, rfl, rfl, rfl, hs⟩ := Go.ChangeMaps.open_string Tryd.underlying9 (hval 2 9 v2 rfl rfl) h2
  refine (walk s x1 t W (sin_of_laid hL) (bend_of_laid hL) (i64_of w1)).mono fun e W' ⟨he, hk⟩ => ?_
  subst he
  exact ⟨_, rfl, post_law rfl (by kernel_rfl) (by kernel_rfl) hW' rfl hk⟩

set_option maxRecDepth 100000 in
theorem laid_met (os : Os) : laidMet Tryd.prog Rows.shapeCostsRow.laid ((layIn (World.holding Tryd.prog os ⟨#[], #[], []⟩)).forCall (fun _ _ => 0) ⟨#[], #[.agg #[.int .i64 0, .int .i64 0, .int .i64 0, .int .i64 0, .int .i64 0, .int .i64 0], .int .i64 0, .string ⟨#[]⟩], []⟩).memory :=
  laidMet_of_run' 8 (by kernel_rfl) (by kernel_rfl)
set_option maxRecDepth 100000 in
theorem reads (os : Os) {H : Type} (enc : TypeId × Value → H) : ∃ places, DataW.whole enc Tryd.prog ((layIn (World.holding Tryd.prog os ⟨#[], #[], []⟩)).forCall (fun _ _ => 0) ⟨#[], #[.agg #[.int .i64 0, .int .i64 0, .int .i64 0, .int .i64 0, .int .i64 0, .int .i64 0], .int .i64 0, .string ⟨#[]⟩], []⟩).memory Tryd.f3.params.toList Rows.shapeCostsSpec.vars false (#[.agg #[.int .i64 0, .int .i64 0, .int .i64 0, .int .i64 0, .int .i64 0, .int .i64 0], .int .i64 0, .string ⟨#[]⟩] : Array Value).toList 8 = some ([.agg [.lit (.int .i64 0), .lit (.int .i64 0), .lit (.int .i64 0), .lit (.int .i64 0), .lit (.int .i64 0), .lit (.int .i64 0)], .lit (.int .i64 0), .lit (.string [])], [], places) :=
  ⟨[], by kernel_rfl⟩

set_option maxRecDepth 100000 in
theorem lifted (os : Os) (started : os.Started) (H : Type) (enc : TypeId × Value → H) (F : Stop.Interp) :
    ReturnsInHanded {} Tryd.checked os 3 .any ((OpenSpec.ofChange Rows.shapeCostsSpec).preRow enc Tryd.prog Tryd.f3 Rows.shapeCostsRow.domain false Rows.shapeCostsRow.laid) (((OpenSpec.ofChange Rows.shapeCostsSpec).at F).post enc Tryd.prog Tryd.f3 false true false false) := by
  obtain ⟨places, hx⟩ := reads os enc
  refine returnsInHanded_of_row (C := Tryd.checked) (s := OpenSpec.ofChange Rows.shapeCostsSpec) Tryd.own started (by kernel_rfl) Tryd.func3
    (witness_row_at (enc := enc) (C := Tryd.checked) false (layIn (World.holding Tryd.prog os ⟨#[], #[], []⟩)) #[.agg #[.int .i64 0, .int .i64 0, .int .i64 0, .int .i64 0, .int .i64 0, .int .i64 0], .int .i64 0, .string ⟨#[]⟩] rfl (by kernel_rfl) (by kernel_rfl) (by kernel_rfl)
      (OpenSpec.preRow_of_cond 8 hx (by kernel_rfl) (fun k hk => by cases hk) (by kernel_rfl) (laid_met os))) ?_
  intro W base args ds gs before hval hW _ hc hsz hL _ _
  exact contract H enc W base args ds gs before hval hW hsz hL

theorem said : Rows.ShapeCostsSaid :=
  OpenClaim.holds_of_cond 3 Tryd.f3 rfl rfl rfl rfl rfl rfl rfl ⟨rfl, rfl, rfl, rfl, rfl⟩ rfl rfl rfl rfl rfl (by kernel_rfl) Tryd.func3 (by kernel_rfl)
    (of_decide_eq_true (by kernel_rfl)) (by unfold Func.isWrapper; first | (rw [if_pos (by decide +kernel)]; kernel_rfl) | (rw [if_neg (by decide +kernel)]; exact ⟨rfl, rfl⟩))
    (fun os started H enc _ F => by rw [OpenClaim.pre_eq_preRow]; exact lifted os started H enc F)

theorem plain (f : FuncId) (fn : Func) (hf : Tryd.pinned.checked.prog.funcNamed Rows.shapeCostsRow.func = some f) (hfn : Tryd.pinned.checked.prog.funcs[f]? = some fn) :
    false = Tryd.pinned.checked.prog.looks [] ∧ ∀ (j : Nat) t, fn.params[j]? = some t → Tryd.pinned.checked.prog.wantsStandIn t = false := by
  obtain rfl : f = 3 := Option.some.inj ((show Tryd.prog.funcNamed Rows.shapeCostsRow.func = some 3 by kernel_rfl).symm.trans hf) |>.symm
  obtain rfl : fn = Tryd.f3 := (Option.some.inj (Tryd.func3.symm.trans hfn)).symm
  refine ⟨by kernel_rfl, fun j t ht => ?_⟩
  have hall : (Tryd.f3.params.toList.all fun u => !Tryd.prog.wantsStandIn u) = true := by kernel_rfl
  exact (show Tryd.prog.wantsStandIn t = false by simpa using List.all_eq_true.1 hall t (Array.mem_toList_iff.2 (Array.mem_of_getElem? ht)))

theorem card : Rows.ShapeCostsCardSaid :=
  Claim7.holds_tied_plain_at .later [] _ _ _ _ said (fun _ h => by cases h) (by kernel_rfl) (fun _ h => by cases h) shapeCosts_row_tie rfl ⟨rfl, rfl⟩ (by kernel_rfl) rfl plain (by kernel_rfl)

end Go.Proofs.YtakiimjldccgcabDoor.ShCosts
namespace Go.Proofs.YtakiimjldccgcabDoor
theorem shapeCosts_card : Rows.ShapeCostsCardSaid := ShCosts.card
end Go.Proofs.YtakiimjldccgcabDoor
