/-
  For every row, every list of gains and every number the statement NormMoves answers true: awake does; a number added to all leaves Center's row and Layer's answer as they are, and moves the mean by it; a row about its mean sums to less than how many numbers there are.
-/
import Derived.Test.YtibbifklnimlcabNos
import Derived.Test.YtibbifklnimlcabNoe
import Derived.Test.YtibbifklnimlcabNof
import Derived.Test.YtibbifklnimlcabNoM
namespace Go.Proofs.Ytibbifklnimlcab.Moves9
open Go.ChangeShapes Go.WideShapes Go.ChangeAt Go.RowKit Go.Lib Go.Maps

set_option maxHeartbeats 16000000 in
set_option maxRecDepth 100000 in
theorem walk (lv gv : Value) (zs gs : List Int) (B : Int) (w : World) (hl : Rk .i64 (fun b => b < w.heap.size) w lv zs) (hg : Rk .i8 (fun b => b < w.heap.size) w gv gs) (hB : I64 B) :
    Calls Try.prog 4 #[lv, gv, zV B] w fun e w' => e = .returned (.bool true) ∧ Fresh w w' := by
  have HAW : Hid (∀ W : World, _) := fun (W : World) => awake_any W
  obtain ⟨B0, B1⟩ := hB
  obtain ⟨ao, ac, hva, _⟩ := hl.shape
  obtain ⟨bo, bc, hvb, _⟩ := hg.shape
  subst hva
  subst hvb
  by_cases b1 : B < -268435456
  · clear hl hg
    go_enter Try.func4, Try.ntmps4
    go_wp2_with fail
    refine (HAW.out _).mono ?_
    rintro e w4 ⟨rfl, hF4⟩
    have HF4 : Hid (Fresh w w4) := hF4
    clear hF4 HAW
    go_wp2
    go_ret
    exact ⟨rfl, HF4.out⟩
  by_cases b2 : 268435456 < B
  · clear hl hg
    go_enter Try.func4, Try.ntmps4
    go_wp2_with fail
    refine (HAW.out _).mono ?_
    rintro e w4 ⟨rfl, hF4⟩
    have HF4 : Hid (Fresh w w4) := hF4
    clear hF4 HAW
    go_wp2
    go_ret
    exact ⟨rfl, HF4.out⟩
  have hRB : Rc B := ⟨by omega, by omega⟩
  have HL : Hid (∀ W, Fresh w W → Rk .i64 (fun b => b < w.heap.size) W (.slice ao zs.length ac) zs ∧ Rk .i8 (fun b => b < w.heap.size) W (.slice bo gs.length bc) gs) := fun W hF => ⟨hl.fresh hF, hg.fresh hF⟩
  have hget : Hid (∀ j, I64 (zs.getD j 0)) := fun j => hl.get j
  have hlen := hl.len
  simp only [kb] at hlen
  have HC : Hid _ := hl.stay
  have HN : Hid (∀ j, j < zs.length → Rc (zs.getD j 0) → (∀ z ∈ zs.take j, Rc z) → ∀ z ∈ zs.take (j + 1), Rc z) := fun j hj h h' => take_all hj h' h
  have HD : Hid (∀ (W : World) (g c : Nat), Grw .i64 2 w (mvF zs B) zs.length g c W → (∀ z ∈ zs, Rc z) → Rk .i64 (fun b => w.heap.size ≤ b ∧ b < W.heap.size) W (.slice (some ⟨g, 0, none⟩) zs.length c) (mv zs B)) := fun W g c h hrc =>
    rk_of_own h.1 (by rw [mv_len]; simp only [kb]; omega) (mv_fit hrc hRB)
  have HT : Hid (zs.take zs.length = zs) := List.take_length
  have HM : Hid (∀ j, mvF zs B j = zs.getD j 0 + B) := fun _ => rfl
  have HA0 : Hid (nE zs = 0 → nE (mv zs B) = 0 → coL (mv zs B) = coL zs ∧ coM (mv zs B) = coM zs + B ∧ laE (mv zs B) gs gs = laE zs gs gs ∧ laL (mv zs B) gs gs = laL zs gs gs) := fun h0 h9 => mv_all gs gs h0 h9
  have HS : Hid (nE zs = 0 → coL zs = ceL zs ∧ (ceL zs).length = zs.length ∧ zs.length ≤ 64 ∧ (0 ≤ tot (ceL zs) zs.length ∧ tot (ceL zs) zs.length < (zs.length : Int)) ∧ Rc (coM zs) ∧ (∀ k : Nat, k ≤ zs.length → -(536870912 * (k : Int)) ≤ tot (ceL zs) k ∧ tot (ceL zs) k ≤ 536870912 * (k : Int)) ∧ ∀ j, j < zs.length → -536870912 ≤ (ceL zs).getD j 0 ∧ (ceL zs).getD j 0 ≤ 536870912) := fun h0 => by
    obtain ⟨l1, l2, hrc⟩ := nE_zero h0
    exact ⟨if_pos h0, ceL_len zs, l2, ce_sum l1, by unfold coM; rw [if_pos h0]; exact mN_bound l1 hrc, ce_step l1 hrc, fun j hj => by rw [ceL_get hj]; exact ceF_bound l1 hrc j⟩
  have HTot : Hid (∀ l : List Int, ∀ k, tot l (k + 1) = tot l k + l.getD k 0) := fun _ _ => rfl
  have HCl : Hid (∀ us, (coL us).length * kb .i64 ≤ 140737488351232 ∧ ∀ z ∈ coL us, Fit .i64 z) := fun us => ⟨by have := coL_len us; simp only [kb]; omega, coL_fit us⟩
  have HLl : Hid (∀ us, (laL us gs gs).length * kb .i8 ≤ 140737488351232 ∧ ∀ z ∈ laL us gs gs, Fit .i8 z) := fun us => ⟨by have := laL_len us gs gs; simp only [kb]; omega, laL_fit us gs gs⟩
  clear hl hg hRB
  generalize zs.length = n at *
  obtain ⟨W0, hW0⟩ : ∃ W0, w.alloc (.cells #[] 2) = W0 := ⟨_, rfl⟩
  have hS : Hid (Grw .i64 2 w (mvF zs B) 0 w.heap.size 0 W0) := by show Grw _ _ _ _ _ _ _ _; rw [← hW0]; exact Grw.start _ (Kept.refl _ w)
  go_enter Try.func4, Try.ntmps4
  go_wp2
  clear hW0
  go_loopw [7, 8] (fun ov iv wr => ∃ j g c : Nat, j ≤ n ∧ iv = zV j ∧ ov = .slice (some ⟨g, 0, none⟩) j c ∧ Hid (Grw .i64 2 w (mvF zs B) j g c wr ∧ ∀ z ∈ zs.take j, Rc z)) (fun _ iv _ => n - (RowKit.intOf iv).toNat)
  case atStart => exact ⟨0, _, _, Nat.zero_le _, rfl, rfl, hS.out, (fun z hz => by simp at hz)⟩
  case round =>
    obtain ⟨j, og, oc, hj, rfl, rfl, HA⟩ := hrel
    clear hS
    by_cases hlt : j < n
    · obtain ⟨b, off, rfl, hcell⟩ := HC.out (by omega)
      have g1 := hcell wr HA.out.1.fresh j hlt
      have hlt' : (j : Int) < (n : Int) := by omega
      obtain ⟨x0, x1⟩ := hget.out j
      have HA2 : Hid (Rc (zs.getD j 0) → ∀ z ∈ zs.take (j + 1), Rc z) := fun h => HN.out j hlt h HA.out.2
      obtain ⟨g', c', X', hr1, hG⟩ := HA.out.1.push ty64 (by simp only [kb]; omega)
      rw [HM.out j] at hr1
      have HG : Hid _ := hG
      have HF : Hid (Fresh w wr) := HA.out.1.fresh
      clear hcell HC HD HL hget HN HA hG HT HM HA0 HS HTot HCl HLl
      generalize zs.getD j 0 = x at *
      by_cases c1 : x < -268435456
      · clear hr1 HG
        go_wp2_with fail
        refine (HAW.out _).mono ?_
        rintro e w4 ⟨rfl, hF4⟩
        have HF4 : Hid (Fresh w w4) := HF.out.trans hF4 (fun _ _ e => e)
        clear hF4 HF HAW
        go_wp2
        go_ret
        exact ⟨rfl, HF4.out⟩
      · by_cases c2 : 268435456 < x
        · clear hr1 HG
          go_wp2_with fail
          refine (HAW.out _).mono ?_
          rintro e w4 ⟨rfl, hF4⟩
          have HF4 : Hid (Fresh w w4) := HF.out.trans hF4 (fun _ _ e => e)
          clear hF4 HF HAW
          go_wp2
          go_ret
          exact ⟨rfl, HF4.out⟩
        · have HA3 : Hid _ := HA2.out ⟨by omega, by omega⟩
          clear HAW HF HA2
          go_wp2_with (at_builtin; refine Lib.wpList_append_run _ rfl _ _ _ _ rfl _ _ rfl rfl _ _ hr1 ?_)
          go_roundw
          case rel => exact ⟨j + 1, g', c', hlt, by go_num, rfl, HG.out, HA3.out⟩
          case measure => simp [RowKit.intOf]; omega
    · obtain rfl : j = n := by omega
      have hrc : ∀ z ∈ zs, Rc z := by have := HA.out.2; rwa [HT.out] at this
      have hF1 : Fresh w wr := HA.out.1.fresh
      have hRd := HD.out wr og oc HA.out.1 hrc
      obtain ⟨t, W1, hr1, hF01, hR1⟩ := copy_of ty8 (HL.out wr hF1).2
      have HF1 : Hid (Fresh w W1) := hF1.trans hF01 (fun _ _ e => e)
      have HL2 : Hid (∀ W, Fresh W1 W → (Rk .i64 (fun b => b < w.heap.size) W (.slice ao j ac) zs ∧ Rk .i64 (fun b => w.heap.size ≤ b ∧ b < wr.heap.size) W (.slice (some ⟨og, 0, none⟩) j oc) (mv zs B)) ∧ (Rk .i8 (fun b => b < w.heap.size) W (.slice bo gs.length bc) gs ∧ Rk .i8 (fun b => wr.heap.size ≤ b ∧ b < W1.heap.size) W t gs)) := fun W hF => ⟨⟨(HL.out W (HF1.out.trans hF (fun _ _ e => e))).1, (hRd.fresh hF01).fresh hF⟩, (HL.out W (HF1.out.trans hF (fun _ _ e => e))).2, hR1.fresh hF⟩
      have H1 : Hid (Unit → _) := fun (_ : Unit) => Center_any _ _ _ W1 (HL2.out W1 (Kept.refl _ _)).1.1
      obtain ⟨to, tc, rfl, _⟩ := hR1.shape
      clear HC HD hget HN HA HT hrc hF1 hRd HL hF01 hR1 HM
      go_wp2_with (at_builtin; refine Lib.wpList_append_run _ rfl _ _ _ _ rfl _ _ rfl rfl _ _ hr1 ?_)
      refine (H1.out ()).mono ?_
      rintro e w2 hG
      obtain ⟨v2, rfl, hR2, hF2⟩ := hG.row (HCl.out zs).1 (HCl.out zs).2
      have HF2 : Hid (Fresh W1 w2) := hF2
      have HR2 : Hid (Rk .i64 (fun b => W1.heap.size ≤ b ∧ b < w2.heap.size) w2 v2 (coL zs)) := hR2
      have H2 : Hid (Unit → _) := fun (_ : Unit) => refCenter_any _ _ _ w2 (HL2.out w2 hF2).1.1
      clear H1 hF2 hG hR2 hr1
      go_wp2_with fail
      refine (H2.out ()).mono ?_
      rintro e w3 hG
      obtain ⟨v3, rfl, hR3, hF3⟩ := hG.row (HCl.out zs).1 (HCl.out zs).2
      obtain ⟨fo, fc, rfl, _⟩ := hR3.shape
      have HF3 : Hid (Fresh W1 w3 ∧ Fresh w2 w3) := ⟨HF2.out.trans hF3 (fun _ _ e => e), hF3⟩
      have H3 : Hid (Unit → _) := fun (_ : Unit) => Center_any _ _ _ w3 (HL2.out w3 HF3.out.1).1.2
      clear H2 hF3 hG hR3 HF2
      go_wp2_with fail
      refine (H3.out ()).mono ?_
      rintro e w4 hG
      obtain ⟨v4, rfl, hR4, hF4⟩ := hG.row (HCl.out (mv zs B)).1 (HCl.out (mv zs B)).2
      have HF4 : Hid (Fresh W1 w4) := HF3.out.1.trans hF4 (fun _ _ e => e)
      have HR4 : Hid (∀ W, Fresh w4 W → Rk .i64 (fun b => W1.heap.size ≤ b ∧ b < w2.heap.size) W v2 (coL zs) ∧ Rk .i64 (fun b => w3.heap.size ≤ b ∧ b < w4.heap.size) W v4 (coL (mv zs B))) := fun W hF => ⟨((HR2.out.fresh HF3.out.2).fresh hF4).fresh hF, hR4.fresh hF⟩
      clear H3 hF4 hG hR4 HF3 HR2
      obtain ⟨ao2, ac2, hv2, _⟩ := (HR4.out w4 (Kept.refl _ _)).1.shape
      obtain ⟨ao4, ac4, hv4, _⟩ := (HR4.out w4 (Kept.refl _ _)).2.shape
      subst hv2
      subst hv4
      go_wp2_with fail
      refine (HAW.out _).mono ?_
      rintro e w5 ⟨rfl, hF5⟩
      have HF5 : Hid (Fresh W1 w5 ∧ Fresh w4 w5) := ⟨HF4.out.trans hF5 (fun _ _ e => e), hF5⟩
      have HFw : Hid (Fresh w w5) := HF1.out.trans (HF4.out.trans hF5 (fun _ _ e => e)) (fun _ _ e => e)
      clear hF5 HF4 HAW
      by_cases h0 : nE zs = 0
      · by_cases h9 : nE (mv zs B) = 0
        · obtain ⟨e1, e2, e3, e4⟩ := HA0.out h0 h9
          obtain ⟨s1, s2, s3, s4, s5, s6, s7⟩ := HS.out h0
          rw [e1] at HR4
          rw [h0, h9, e1, e2]
          have HE3 : Hid (laE (mv zs B) gs gs = laE zs gs gs ∧ laL (mv zs B) gs gs = laL zs gs gs) := ⟨e3, e4⟩
          rw [s1] at HR4 ⊢
          rw [s2]
          have HC5 := (HR4.out w5 HF5.out.2).1
          rw [s2] at HC5
          have HC : Hid _ := HC5.stay
          have HS4 : Hid _ := s4
          have HS6 : Hid _ := s6
          have HS7 : Hid _ := s7
          obtain ⟨m0, m1⟩ := s5
          clear HA0 HS h0 h9 e1 e2 e3 e4 s1 s4 s6 s7 HC5
          have hT0 := HTot.out (ceL zs)
          have HT0 : Hid _ := hT0
          clear hT0 HTot
          rw [s2] at HR4
          clear s2
          generalize coM zs = M at *
          go_wp2
          go_loopw [19, 20] (fun s i wr => ∃ k : Nat, k ≤ j ∧ i = zV k ∧ s = zV (tot (ceL zs) k) ∧ wr = w5) (fun _ i _ => j - (RowKit.intOf i).toNat)
          case atStart => exact ⟨0, Nat.zero_le _, rfl, rfl, rfl⟩
          case round =>
            obtain ⟨k, hk, rfl, rfl, hwr⟩ := hrel
            have hwr' := hwr.symm
            subst hwr'
            clear hwr
            by_cases hlt2 : k < j
            · obtain ⟨b, off, rfl, hcell⟩ := HC.out (by omega)
              have g1 := hcell w5 (Kept.refl _ _) k hlt2
              have hlt' : (k : Int) < (j : Int) := by omega
              have HT1 : Hid _ := HT0.out k
              obtain ⟨x0, x1⟩ := HS7.out k hlt2
              obtain ⟨t0, t1⟩ := HS6.out k hk
              clear hcell HC HT0 HS4 HS6 HS7 HL2 HR4 HE3 HLl HCl
              generalize (ceL zs).getD k 0 = x at *
              generalize tot (ceL zs) k = S at *
              go_wp2
              go_roundw
              case rel => exact ⟨k + 1, hlt2, by go_num, by rw [HT1.out], trivial⟩
              case measure => simp [RowKit.intOf]; omega
            · obtain rfl : k = j := by omega
              obtain ⟨S0, S1⟩ := HS4.out
              have H6 : Hid (Unit → _) := fun (_ : Unit) => Layer_any _ _ _ _ _ _ _ _ _ w5 (HL2.out w5 HF5.out.1).1.1 (HL2.out w5 HF5.out.1).2.1 (HL2.out w5 HF5.out.1).2.2
              clear HC HT0 HS4 HS6 HS7
              generalize tot (ceL zs) k = S at *
              go_wp2_with fail
              refine (H6.out ()).mono ?_
              rintro e w6 hG
              obtain ⟨v6, rfl, hR6, hF6⟩ := hG.row (HLl.out zs).1 (HLl.out zs).2
              have HF6 : Hid (Fresh W1 w6 ∧ Fresh w4 w6) := ⟨HF5.out.1.trans hF6 (fun _ _ e => e), HF5.out.2.trans hF6 (fun _ _ e => e)⟩
              have HR6 : Hid (Rk .i8 (fun b => w5.heap.size ≤ b ∧ b < w6.heap.size) w6 v6 (laL zs gs gs)) := hR6
              have H7 : Hid (Unit → _) := fun (_ : Unit) => Layer_any _ _ _ _ _ _ _ _ _ w6 (HL2.out w6 HF6.out.1).1.2 (HL2.out w6 HF6.out.1).2.1 (HL2.out w6 HF6.out.1).2.2
              clear H6 hG hR6 hF6 HF5
              go_wp2_with fail
              refine (H7.out ()).mono ?_
              rintro e w7 hG
              obtain ⟨v7, rfl, hR7, hF7⟩ := hG.row (HLl.out (mv zs B)).1 (HLl.out (mv zs B)).2
              rw [HE3.out.2] at hR7
              rw [HE3.out.1]
              have HF7 : Hid (Fresh W1 w7 ∧ Fresh w4 w7) := ⟨HF6.out.1.trans hF7 (fun _ _ e => e), HF6.out.2.trans hF7 (fun _ _ e => e)⟩
              have HR7 : Hid (∀ W, Fresh w7 W → Rk .i8 (fun b => w5.heap.size ≤ b ∧ b < w6.heap.size) W v6 (laL zs gs gs) ∧ Rk .i8 (fun b => w6.heap.size ≤ b ∧ b < w7.heap.size) W v7 (laL zs gs gs)) := fun W hF => ⟨(HR6.out.fresh hF7).fresh hF, hR7.fresh hF⟩
              have H8 : Hid (Unit → _) := fun (_ : Unit) => longs_any _ _ _ _ _ w7 (HR4.out w7 HF7.out.2).1 (HR4.out w7 HF7.out.2).2
              clear H7 hG hR7 hF7 HF6 HR6 HL2 HR4 HE3
              generalize laE zs gs gs = E at *
              go_wp2_with fail
              refine (H8.out ()).mono ?_
              rintro e w8 ⟨rfl, n8, hw8⟩
              have HF8 : Hid (Fresh W1 w8 ∧ Fresh w7 w8) := by show _ ∧ _; rw [hw8]; exact ⟨HF7.out.1.drewN n8, kept_drewN _ _ _⟩
              have H9 : Hid (Unit → _) := fun (_ : Unit) => rows_any _ _ _ _ _ w8 (HR7.out w8 HF8.out.2).1 (HR7.out w8 HF8.out.2).2
              clear hw8 H8 HF7 HR7
              go_wp2_with fail
              refine (H9.out ()).mono ?_
              rintro e w9 ⟨rfl, n9, hw9⟩
              have HF9 : Hid (Fresh w w9) := by show Fresh _ _; rw [hw9]; exact HF1.out.trans (HF8.out.1.drewN n9) (fun _ _ e => e)
              clear hw9 H9 HF8
              go_wp2
              go_ret
              exact ⟨by simp, HF9.out⟩
        · have h9' : (nE (mv zs B) == 0) = false := beq_eq_false_iff_ne.2 h9
          rw [h0]
          clear HA0 HS h0 h9 HTot HL2 HR4 HF5
          generalize nE (mv zs B) = E9 at *
          go_wp2
          go_ret
          exact ⟨rfl, HFw.out⟩
      · have h0' : (nE zs == 0) = false := beq_eq_false_iff_ne.2 h0
        clear HA0 HS h0 HTot HL2 HR4 HF5
        generalize nE (mv zs B) = E9 at *
        generalize nE zs = E0 at *
        go_wp2
        go_ret
        exact ⟨rfl, HFw.out⟩

set_option maxRecDepth 100000 in
theorem contract (H : Type) (enc : TypeId × Value → H) (W : World) (base : Nat) (args : Array Value) (ds gs : List (DataW H)) (before : List MemPlace)
    (hval : ∀ (j : Nat) t v, Try.f4.params[j]? = some t → args[j]? = some v → Value.okWide Try.prog W .any base t v)
    (hW : DataW.Whole enc Try.prog Try.f4.params.toList Rows.normMovesSpec.vars false W args.toList ds gs before) 
    (hsz : (DataW.weightsEach Try.prog (Try.f4.params.toList ++ []) (ds ++ gs)).all (· ≤ reachBytes) = true) (hL : laidMetH Try.prog Rows.normMovesRow.laid W) :
    Calls Try.prog 4 args W fun e W' => ∃ v, e = .returned v ∧ Rows.normMovesSpec.post enc Try.prog Try.f4 false true false false W args v W' := by
  have hW' := hW
  obtain ⟨p, q, hA0, hV, rfl, hfz, hnd⟩ := hW
  have hA : DataW.TrodAll enc Try.prog W 0 (fun _ => true) true Try.f4.params.toList args.toList ds p := hA0
  rw [Try.params4] at hA hval hsz
  obtain ⟨rfl, rfl⟩ := trodVars_none hV
  have _hL := hL
  obtain ⟨v0, v1, v2, d0, d1, d2, p0, p1, p2, rfl, rfl, rfl, h0, h1, h2⟩ := trodAll_three hA
  obtain ⟨zs, hz⟩ := arg64 (hval 0 22 v0 rfl rfl) h0 hsz (j := 0) rfl rfl
  obtain ⟨gs, hg⟩ := arg8 (hval 1 23 v1 rfl rfl) h1 hsz (j := 1) rfl rfl
  obtain ⟨x2, rfl, rfl, rfl, w2⟩ := open_int Try.underlying2 (hval 2 2 v2 rfl rfl) h2
  refine (walk v0 v1 zs gs x2 W hz hg (i64_of w2)).mono fun e W' ⟨he, hk⟩ => ?_
  subst he
  exact ⟨_, rfl, post_law rfl (by kernel_rfl) (by kernel_rfl) hW' rfl hk⟩

set_option maxRecDepth 100000 in
theorem laid_met (os : Os) : laidMet Try.prog Rows.normMovesRow.laid ((layIn (World.holding Try.prog os ⟨#[], #[], []⟩)).forCall (fun _ _ => 0) ⟨#[], #[.slice none 0 0, .slice none 0 0, .int .i64 0], []⟩).memory :=
  laidMet_of_run' 8 (by kernel_rfl) (by kernel_rfl)
set_option maxRecDepth 100000 in
theorem reads (os : Os) {H : Type} (enc : TypeId × Value → H) : ∃ places, DataW.whole enc Try.prog ((layIn (World.holding Try.prog os ⟨#[], #[], []⟩)).forCall (fun _ _ => 0) ⟨#[], #[.slice none 0 0, .slice none 0 0, .int .i64 0], []⟩).memory Try.f4.params.toList Rows.normMovesSpec.vars false (#[.slice none 0 0, .slice none 0 0, .int .i64 0] : Array Value).toList 8 = some ([.nil, .nil, .lit (.int .i64 0)], [], places) :=
  ⟨[], by kernel_rfl⟩

set_option maxRecDepth 100000 in
theorem lifted (os : Os) (started : os.Started) (H : Type) (enc : TypeId × Value → H) (F : Stop.Interp) :
    ReturnsInHanded {} Try.checked os 4 .any ((OpenSpec.ofChange Rows.normMovesSpec).preRow enc Try.prog Try.f4 Rows.normMovesRow.domain false Rows.normMovesRow.laid) (((OpenSpec.ofChange Rows.normMovesSpec).at F).post enc Try.prog Try.f4 false true false false) := by
  obtain ⟨places, hx⟩ := reads os enc
  refine returnsInHanded_of_row (C := Try.checked) (s := OpenSpec.ofChange Rows.normMovesSpec) Try.own started (by kernel_rfl) Try.func4
    (witness_row_at (enc := enc) (C := Try.checked) false (layIn (World.holding Try.prog os ⟨#[], #[], []⟩)) #[.slice none 0 0, .slice none 0 0, .int .i64 0] rfl (by kernel_rfl) (by kernel_rfl) (by kernel_rfl)
      (OpenSpec.preRow_of_cond 8 hx (by kernel_rfl) (fun k hk => by cases hk) (by kernel_rfl) (laid_met os))) ?_
  intro W base args ds gs before hval hW _ hc hsz hL _ _
  exact contract H enc W base args ds gs before hval hW hsz hL

theorem said : Rows.NormMovesSaid :=
  OpenClaim.holds_of_cond 4 Try.f4 rfl rfl rfl rfl rfl rfl rfl ⟨rfl, rfl, rfl, rfl, rfl⟩ rfl rfl rfl rfl rfl (by kernel_rfl) Try.func4 (by kernel_rfl)
    (of_decide_eq_true (by kernel_rfl)) (by unfold Func.isWrapper; first | (rw [if_pos (by decide +kernel)]; kernel_rfl) | (rw [if_neg (by decide +kernel)]; exact ⟨rfl, rfl⟩))
    (fun os started H enc _ F => by rw [OpenClaim.pre_eq_preRow]; exact lifted os started H enc F)


end Go.Proofs.Ytibbifklnimlcab.Moves9
namespace Go.Proofs.Ytibbifklnimlcab
theorem normMoves_holds : Rows.NormMovesSaid := Moves9.said
end Go.Proofs.Ytibbifklnimlcab
