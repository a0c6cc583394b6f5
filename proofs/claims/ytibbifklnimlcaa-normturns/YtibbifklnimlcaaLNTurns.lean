/-
  For every row and every list of gains the statement NormTurns answers true: awake does; of a row of numbers that may be, Row of the negated row is the negated one, and never -128.
-/
import Derived.Test.YtibbifklnimlcaaNod
import Derived.Test.YtibbifklnimlcaaNoe
import Derived.Test.YtibbifklnimlcaaNof
import Derived.Test.YtibbifklnimlcaaNoT
namespace Go.Proofs.Ytibbifklnimlcaa.Turns9
open Go.ChangeShapes Go.WideShapes Go.ChangeAt Go.RowKit Go.Lib Go.Maps

set_option maxHeartbeats 8000000 in
set_option maxRecDepth 100000 in
theorem walk (lv gv : Value) (zs gs : List Int) (w : World) (hl : Rk .i64 (fun b => b < w.heap.size) w lv zs) (hg : Rk .i8 (fun b => b < w.heap.size) w gv gs) :
    Calls Try.prog 6 #[lv, gv] w fun e w' => e = .returned (.bool true) ∧ Fresh w w' := by
  have HAW : Hid (∀ W : World, _) := fun (W : World) => awake_any W
  have HL : Hid (∀ W, Fresh w W → Rk .i64 (fun b => b < w.heap.size) W lv zs ∧ Rk .i8 (fun b => b < w.heap.size) W gv gs) := fun W hF => ⟨hl.fresh hF, hg.fresh hF⟩
  have hget : Hid (∀ j, I64 (zs.getD j 0)) := fun j => hl.get j
  have hlen := hl.len
  simp only [kb] at hlen
  obtain ⟨ao, ac, hva, _⟩ := hl.shape
  obtain ⟨bo, bc, hvb, _⟩ := hg.shape
  subst hva
  have HC : Hid _ := hl.stay
  have HN : Hid (∀ j, j < zs.length → Rc (zs.getD j 0) → (∀ z ∈ zs.take j, Rc z) → ∀ z ∈ zs.take (j + 1), Rc z) := fun j hj h h' => take_all hj h' h
  have HD : Hid (∀ (W : World) (g c : Nat), Grw .i64 2 w (dnF zs) zs.length g c W → (∀ z ∈ zs, Rc z) → Rk .i64 (fun b => w.heap.size ≤ b ∧ b < W.heap.size) W (.slice (some ⟨g, 0, none⟩) zs.length c) (dn zs)) := fun W g c h hrc =>
    rk_of_own h.1 (by rw [dn_len]; simp only [kb]; omega) (dn_fit hrc)
  have HT : Hid (zs.take zs.length = zs) := List.take_length
  have HB : Hid ((∀ z ∈ zs, Rc z) → roE (dn zs) gs = roE zs gs ∧ (roL (dn zs) gs).length = (roL zs gs).length ∧ ∀ i, i < (roL zs gs).length → (roL (dn zs) gs).getD i 0 = - (roL zs gs).getD i 0) := fun h => ⟨dn_roE gs h, dn_roL gs h⟩
  have HRL : Hid ((∀ us : List Int, (roL us gs).length * kb .i8 ≤ 140737488351232 ∧ ∀ z ∈ roL us gs, Fit .i8 z) ∧ (roL zs gs).length ≤ 64 ∧ ∀ i, i < (roL (dn zs) gs).length → -127 ≤ (roL (dn zs) gs).getD i 0 ∧ (roL (dn zs) gs).getD i 0 ≤ 127) := ⟨fun us => ⟨by have := roL_len us gs; simp [kb]; omega, roL_fit us gs⟩, roL_len zs gs, fun i hi => by rw [getD_getElem hi]; exact roL_i8 _ _ _ (List.getElem_mem hi)⟩
  clear hl hg
  generalize zs.length = n at *
  obtain ⟨W0, hW0⟩ : ∃ W0, w.alloc (.cells #[] 2) = W0 := ⟨_, rfl⟩
  have hS : Hid (Grw .i64 2 w (dnF zs) 0 w.heap.size 0 W0) := by show Grw _ _ _ _ _ _ _ _; rw [← hW0]; exact Grw.start _ (Kept.refl _ w)
  go_enter Try.func6, Try.ntmps6
  go_wp2
  clear hW0
  go_loopw [5, 6] (fun ov iv wr => ∃ j g c : Nat, j ≤ n ∧ iv = zV j ∧ ov = .slice (some ⟨g, 0, none⟩) j c ∧ Hid (Grw .i64 2 w (dnF zs) j g c wr ∧ ∀ z ∈ zs.take j, Rc z)) (fun _ iv _ => n - (RowKit.intOf iv).toNat)
  case atStart => exact ⟨0, _, _, Nat.zero_le _, rfl, rfl, hS.out, (fun z hz => by simp at hz)⟩
  case round =>
    obtain ⟨j, og, oc, hj, rfl, rfl, HA⟩ := hrel
    clear hS
    by_cases hlt : j < n
    · obtain ⟨b, off, rfl, hcell⟩ := HC.out (by omega)
      have g1 := hcell wr HA.out.1.fresh j hlt
      have hlt' : (j : Int) < (n : Int) := by omega
      obtain ⟨x0, x1⟩ := hget.out j
      have HA2 : Hid (Rc (zs.getD j 0) → ∀ z ∈ zs.take (j + 1), Rc z) := fun h => HN.out j hlt h HA.out.2
      obtain ⟨g', c', X', hr1, hG⟩ := HA.out.1.push ty64 (by simp only [kb]; omega)
      rw [show dnF zs j = - zs.getD j 0 from rfl] at hr1
      have HG : Hid _ := hG
      have HF : Hid (Fresh w wr) := HA.out.1.fresh
      clear hcell HC HD HB HL hget HN HA hG HRL HT
      generalize zs.getD j 0 = x at *
      by_cases c1 : x < -268435456
      · clear hr1 HG
        go_wp2_with fail
        refine (HAW.out _).mono ?_
        rintro e w4 ⟨rfl, hF4⟩
        have HF4 : Hid (Fresh w w4) := HF.out.trans hF4 (fun _ _ e => e)
        clear hF4 HF HAW
        go_wp2
        go_ret
        exact ⟨rfl, HF4.out⟩
      · by_cases c2 : 268435456 < x
        · clear hr1 HG
          go_wp2_with fail
          refine (HAW.out _).mono ?_
          rintro e w4 ⟨rfl, hF4⟩
          have HF4 : Hid (Fresh w w4) := HF.out.trans hF4 (fun _ _ e => e)
          clear hF4 HF HAW
          go_wp2
          go_ret
          exact ⟨rfl, HF4.out⟩
        · have HA3 : Hid _ := HA2.out ⟨by omega, by omega⟩
          clear HAW HF HA2
          go_wp2_with (at_builtin; refine Lib.wpList_append_run _ rfl _ _ _ _ rfl _ _ rfl rfl _ _ hr1 ?_)
          go_roundw
          case rel => exact ⟨_, _, _, ⟨j + 1, hlt, by go_num, g', c', rfl, HG.out, HA3.out⟩, rfl, rfl, rfl⟩
          case measure => simp [RowKit.intOf]; omega
    · obtain rfl : j = n := by omega
      have hrc : ∀ z ∈ zs, Rc z := by have := HA.out.2; rwa [HT.out] at this
      obtain ⟨e1, e2, e3⟩ := HB.out hrc
      have hF1 : Fresh w wr := HA.out.1.fresh
      have HF1 : Hid (Fresh w wr) := hF1
      have hRd := HD.out wr og oc HA.out.1 hrc
      have HRd : Hid (∀ W, Fresh wr W → Rk .i64 (fun b => w.heap.size ≤ b ∧ b < wr.heap.size) W (.slice (some ⟨og, 0, none⟩) j oc) (dn zs)) := fun W hF => hRd.fresh hF
      have HL2 : Hid (∀ W, Fresh wr W → Rk .i64 (fun b => b < w.heap.size) W (.slice ao j ac) zs ∧ Rk .i8 (fun b => b < w.heap.size) W gv gs) := fun W hF => HL.out W (hF1.trans hF (fun _ _ e => e))
      have H1 : Hid (Unit → _) := fun (_ : Unit) => Row_any _ _ _ _ _ _ wr (HL2.out wr (Kept.refl _ _)).1 (HL2.out wr (Kept.refl _ _)).2
      have HE : Hid _ := e1
      have HE3 : Hid _ := e3
      have HE2 : Hid _ := e2
      subst hvb
      clear HC HD HB hget HN HA HT hrc e1 e3 e2 hF1 hRd HL
      go_wp2_with fail
      refine (H1.out ()).mono ?_
      rintro e w2 hG
      obtain ⟨v2, rfl, hR2, hF2⟩ := hG.row (HRL.out.1 zs).1 (HRL.out.1 zs).2
      have HF2 : Hid (Fresh wr w2) := hF2
      have HR2 : Hid (Rk .i8 (fun b => wr.heap.size ≤ b ∧ b < w2.heap.size) w2 v2 (roL zs gs)) := hR2
      have H2 : Hid (Unit → _) := fun (_ : Unit) => Row_any _ _ _ _ _ _ w2 (HRd.out w2 hF2) (HL2.out w2 hF2).2
      clear H1 hF2 hG hR2
      go_wp2_with fail
      refine (H2.out ()).mono ?_
      rintro e w3 hG
      obtain ⟨v3, rfl, hR3, hF3⟩ := hG.row (HRL.out.1 (dn zs)).1 (HRL.out.1 (dn zs)).2
      have HF3 : Hid (Fresh wr w3) := HF2.out.trans hF3 (fun _ _ e => e)
      have HR3 : Hid (∀ W, Fresh w3 W → Rk .i8 (fun b => wr.heap.size ≤ b ∧ b < w2.heap.size) W v2 (roL zs gs) ∧ Rk .i8 (fun b => w2.heap.size ≤ b ∧ b < w3.heap.size) W v3 (roL (dn zs) gs)) := fun W hF => ⟨(HR2.out.fresh hF3).fresh hF, hR3.fresh hF⟩
      have H3 : Hid (Unit → _) := fun (_ : Unit) => refRow_any _ _ _ _ _ _ w3 (HL2.out w3 HF3.out).1 (HL2.out w3 HF3.out).2
      clear H2 HF2 hF3 hG hR3 HR2
      rw [HE.out]
      go_wp2_with fail
      refine (H3.out ()).mono ?_
      rintro e w4 hG
      obtain ⟨v4, rfl, hR4, hF4⟩ := hG.row (HRL.out.1 zs).1 (HRL.out.1 zs).2
      obtain ⟨fo, fc, rfl, _⟩ := hR4.shape
      have HF4 : Hid (Fresh w3 w4) := hF4
      clear H3 hF4 hG hR4 HL2 HRd
      go_wp2_with fail
      refine (HAW.out _).mono ?_
      rintro e w5 ⟨rfl, hF5⟩
      have HF5 : Hid (Fresh w w5) := (HF1.out.trans HF3.out (fun _ _ e => e)).trans (HF4.out.trans hF5 (fun _ _ e => e)) (fun _ _ e => e)
      obtain ⟨k2, k3⟩ := HR3.out w5 (HF4.out.trans hF5 (fun _ _ e => e))
      clear hF5 HAW HF4 HF3 HF1 HR3
      obtain ⟨do_, dc, rfl, _⟩ := k2.shape
      obtain ⟨eo, ec, rfl, _⟩ := k3.shape
      have HC2 : Hid _ := k2.stay
      have hk3 := k3.stay
      rw [HE2.out] at hk3
      have HC3 : Hid _ := hk3
      have hx := HRL.out.2.2
      have hn2 := HRL.out.2.1
      rw [HE2.out] at hx ⊢
      have HX : Hid _ := hx
      have HE4 : Hid _ := HE3.out
      clear k2 k3 HRL HE2 hk3 hx HE3 HE
      generalize (roL zs gs).length = m at *
      generalize roE zs gs = E at *
      go_wp2
      go_loopw [13] (fun i wr => ∃ j : Nat, j ≤ m ∧ i = zV j ∧ ∃ d, wr = w5.drewN d) (fun i _ => m - (RowKit.intOf i).toNat)
      case atStart => exact ⟨0, Nat.zero_le _, rfl, 0, rfl⟩
      case round =>
        obtain ⟨i, hi, rfl, d, rfl⟩ := hrel
        by_cases hlt2 : i < m
        · obtain ⟨b2, off2, rfl, hc2⟩ := HC2.out (by omega)
          obtain ⟨b3, off3, rfl, hc3⟩ := HC3.out (by omega)
          have g2 := hc2 w5 (Kept.refl _ w5) i hlt2
          have g3 := hc3 w5 (Kept.refl _ w5) i hlt2
          have hlt' : (i : Int) < (m : Int) := by omega
          have e5 := HE4.out i hlt2
          have e6 : (roL zs gs).getD i 0 = - (roL (dn zs) gs).getD i 0 := by omega
          obtain ⟨y0, y1⟩ := HX.out i hlt2
          rw [e6] at g2
          clear hc2 hc3 HC2 HC3 e5 e6 HE4 HX
          generalize (roL (dn zs) gs).getD i 0 = y at *
          have q : ((-y) == (-128 : Int)) = false := by simp; omega
          go_wp2_with fail
          go_quiet (fail)
          go_wp2
          go_roundw
          case rel => exact ⟨i + 1, hlt2, by go_num, d + nq, rfl⟩
          case measure => simp [RowKit.intOf]; omega
        · obtain rfl : i = m := by omega
          have HF6 : Hid (Fresh w (w5.drewN d)) := HF5.out.drewN d
          clear HC2 HC3 HE4 HX HF5
          go_wp2
          go_ret
          exact ⟨rfl, HF6.out⟩

set_option maxRecDepth 100000 in
theorem contract (H : Type) (enc : TypeId × Value → H) (W : World) (base : Nat) (args : Array Value) (ds gs : List (DataW H)) (before : List MemPlace)
    (hval : ∀ (j : Nat) t v, Try.f6.params[j]? = some t → args[j]? = some v → Value.okWide Try.prog W .any base t v)
    (hW : DataW.Whole enc Try.prog Try.f6.params.toList Rows.normTurnsSpec.vars false W args.toList ds gs before) 
    (hsz : (DataW.weightsEach Try.prog (Try.f6.params.toList ++ []) (ds ++ gs)).all (· ≤ reachBytes) = true) (hL : laidMetH Try.prog Rows.normTurnsRow.laid W) :
    Calls Try.prog 6 args W fun e W' => ∃ v, e = .returned v ∧ Rows.normTurnsSpec.post enc Try.prog Try.f6 false true false false W args v W' := by
  have hW' := hW
  obtain ⟨p, q, hA0, hV, rfl, hfz, hnd⟩ := hW
  have hA : DataW.TrodAll enc Try.prog W 0 (fun _ => true) true Try.f6.params.toList args.toList ds p := hA0
  rw [Try.params6] at hA hval hsz
  obtain ⟨rfl, rfl⟩ := trodVars_none hV
  have _hL := hL
  obtain ⟨v0, v1, d0, d1, p0, p1, rfl, rfl, rfl, h0, h1⟩ := trodAll_two hA
  obtain ⟨zs, hz⟩ := arg64 (hval 0 22 v0 rfl rfl) h0 hsz (j := 0) rfl rfl
  obtain ⟨gs, hg⟩ := arg8 (hval 1 31 v1 rfl rfl) h1 hsz (j := 1) rfl rfl
  refine (walk v0 v1 zs gs W hz hg).mono fun e W' ⟨he, hk⟩ => ?_
  subst he
  exact ⟨_, rfl, post_law rfl (by kernel_rfl) (by kernel_rfl) hW' rfl hk⟩

set_option maxRecDepth 100000 in
theorem laid_met (os : Os) : laidMet Try.prog Rows.normTurnsRow.laid ((layIn (World.holding Try.prog os ⟨#[], #[], []⟩)).forCall (fun _ _ => 0) ⟨#[], #[.slice none 0 0, .slice none 0 0], []⟩).memory :=
  laidMet_of_run' 8 (by kernel_rfl) (by kernel_rfl)
set_option maxRecDepth 100000 in
theorem reads (os : Os) {H : Type} (enc : TypeId × Value → H) : ∃ places, DataW.whole enc Try.prog ((layIn (World.holding Try.prog os ⟨#[], #[], []⟩)).forCall (fun _ _ => 0) ⟨#[], #[.slice none 0 0, .slice none 0 0], []⟩).memory Try.f6.params.toList Rows.normTurnsSpec.vars false (#[.slice none 0 0, .slice none 0 0] : Array Value).toList 8 = some ([.nil, .nil], [], places) :=
  ⟨[], by kernel_rfl⟩

set_option maxRecDepth 100000 in
theorem lifted (os : Os) (started : os.Started) (H : Type) (enc : TypeId × Value → H) (F : Stop.Interp) :
    ReturnsInHanded {} Try.checked os 6 .any ((OpenSpec.ofChange Rows.normTurnsSpec).preRow enc Try.prog Try.f6 Rows.normTurnsRow.domain false Rows.normTurnsRow.laid) (((OpenSpec.ofChange Rows.normTurnsSpec).at F).post enc Try.prog Try.f6 false true false false) := by
  obtain ⟨places, hx⟩ := reads os enc
  refine returnsInHanded_of_row (C := Try.checked) (s := OpenSpec.ofChange Rows.normTurnsSpec) Try.own started (by kernel_rfl) Try.func6
    (witness_row_at (enc := enc) (C := Try.checked) false (layIn (World.holding Try.prog os ⟨#[], #[], []⟩)) #[.slice none 0 0, .slice none 0 0] rfl (by kernel_rfl) (by kernel_rfl) (by kernel_rfl)
      (OpenSpec.preRow_of_cond 8 hx (by kernel_rfl) (fun k hk => by cases hk) (by kernel_rfl) (laid_met os))) ?_
  intro W base args ds gs before hval hW _ hc hsz hL _ _
  exact contract H enc W base args ds gs before hval hW hsz hL

theorem said : Rows.NormTurnsSaid :=
  OpenClaim.holds_of_cond 6 Try.f6 rfl rfl rfl rfl rfl rfl rfl ⟨rfl, rfl, rfl, rfl, rfl⟩ rfl rfl rfl rfl rfl (by kernel_rfl) Try.func6 (by kernel_rfl)
    (of_decide_eq_true (by kernel_rfl)) (by unfold Func.isWrapper; first | (rw [if_pos (by decide +kernel)]; kernel_rfl) | (rw [if_neg (by decide +kernel)]; exact ⟨rfl, rfl⟩))
    (fun os started H enc _ F => by rw [OpenClaim.pre_eq_preRow]; exact lifted os started H enc F)


end Go.Proofs.Ytibbifklnimlcaa.Turns9
namespace Go.Proofs.Ytibbifklnimlcaa
theorem normTurns_holds : Rows.NormTurnsSaid := Turns9.said
end Go.Proofs.Ytibbifklnimlcaa
