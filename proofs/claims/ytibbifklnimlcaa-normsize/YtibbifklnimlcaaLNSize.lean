/-
  For every row the statement NormSize answers true: awake does; the root is at least 1, its square not above the mean of the squares but there, and the next one's is above it; of a row that may not be it is 0.
-/
import Derived.Test.YtibbifklnimlcaaNoc
import Derived.Test.YtibbifklnimlcaaNoi
import Derived.Test.YtibbifklnimlcaaNoe
import Derived.Test.YtibbifklnimlcaaNof
namespace Go.Proofs.Ytibbifklnimlcaa.Size9
open Go.ChangeShapes Go.WideShapes Go.ChangeAt Go.RowKit Go.Lib Go.Maps

theorem rt_square (zs : List Int) : (rt zs = 1 ∨ rt zs * rt zs ≤ mnN zs) ∧ mnN zs < (rt zs + 1) * (rt zs + 1) := by
  obtain ⟨a, b⟩ := root_isq (mnN zs)
  unfold rt
  rcases Nat.lt_or_ge (isq (mnN zs)) 1 with h | h
  · have e : isq (mnN zs) = 0 := by omega
    rw [e] at b ⊢
    exact ⟨.inl rfl, by simp at b ⊢; omega⟩
  · rw [Nat.max_eq_left h]
    exact ⟨.inr a, b⟩

set_option maxHeartbeats 8000000 in
set_option maxRecDepth 100000 in
theorem walk (lv : Value) (zs : List Int) (w : World) (hl : Rk .i64 (fun b => b < w.heap.size) w lv zs) :
    Calls Try.prog 7 #[lv] w fun e w' => e = .returned (.bool true) ∧ Fresh w w' := by
  have HAW : Hid (∀ W : World, _) := fun (W : World) => awake_any W
  have H1 : Hid (Unit → _) := fun (_ : Unit) => Root_any _ _ _ w hl
  have HL : Hid (∀ W, Fresh w W → Rk .i64 (fun b => b < w.heap.size) W lv zs) := fun W hF => hl.fresh hF
  obtain ⟨ao, ac, hva, _⟩ := hl.shape
  clear hl
  by_cases h0 : nE zs = 0
  · obtain ⟨l1, l2, hrc⟩ := nE_zero h0
    obtain ⟨r1, r2⟩ := rt_bound l1 hrc
    have HV : Hid (rV zs = (rt zs : Int)) := if_pos h0
    have HB : Hid (∀ j, _) := sq_i64 hrc l2
    have HS : Hid (∀ j, j < zs.length → sqN (zs.take (j + 1)) = sqN (zs.take j) + zs.getD j 0 * zs.getD j 0 ∧ Rc (zs.getD j 0)) := fun j hj => ⟨sqN_take hj, getD_all hj hrc⟩
    have HM : Hid (sqN zs / (zs.length : Int) = (mnN zs : Int) ∧ mnN zs ≤ 72057594037927936) := mn_bound l1 hrc
    have HQ : Hid _ := rt_square zs
    have HE : Hid (zs.take zs.length = zs) := List.take_length
    have HR : Hid (∀ W, Fresh w W → Rk .i64 (fun b => b < w.heap.size) W (.slice ao zs.length ac) zs) := fun W hF => by rw [← hva]; exact HL.out W hF
    rw [h0, HV.out] at H1
    have H2 : Hid (∀ W, Fresh w W → Calls Try.prog 10 #[.slice ao zs.length ac] W fun e w' => e = .returned (.tuple #[zV (rt zs : Nat), zV 0]) ∧ Drew W w') := fun W hF => by
      have := refRoot_any _ _ _ W (HR.out W hF)
      rwa [h0, HV.out] at this
    subst hva
    clear HL h0 HV hrc
    generalize zs.length = n at *
    generalize rt zs = r at *
    go_enter Try.func7, Try.ntmps7
    go_wp2_with fail
    refine (H1.out ()).mono ?_
    rintro e w2 ⟨rfl, hd⟩
    have HF2 : Hid (Fresh w w2) := hd.fresh
    have H3 : Hid (Unit → _) := fun (_ : Unit) => H2.out w2 hd.fresh
    clear H1 hd H2
    go_wp2_with fail
    refine (H3.out ()).mono ?_
    rintro e w3 ⟨rfl, hd⟩
    have HF3 : Hid (Fresh w w3) := HF2.out.trans hd.fresh (fun _ _ e => e)
    clear H3 hd HF2
    go_wp2_with fail
    refine (HAW.out _).mono ?_
    rintro e w4 ⟨rfl, hF4⟩
    have hF5 : Fresh w w4 := HF3.out.trans hF4 (fun _ _ e => e)
    have HF4 : Hid (Fresh w w4) := hF5
    obtain ⟨_, _, _, hca⟩ := (HR.out w4 hF5).cells
    clear hF4 HF3 HAW HR hF5
    go_wp2
    go_loopw [7, 8] (fun s i wr => ∃ j : Nat, j ≤ n ∧ i = zV j ∧ s = zV (sqN (zs.take j)) ∧ ∃ d, wr = w4.drewN d) (fun _ i _ => n - (RowKit.intOf i).toNat)
    case atStart => exact ⟨0, Nat.zero_le _, rfl, by simp [sqN, dotN], 0, rfl⟩
    case round =>
      obtain ⟨j, hj, rfl, rfl, d, rfl⟩ := hrel
      by_cases hlt : j < n
      · obtain ⟨ab, aoff, rfl, _, _, h1⟩ := hca (by omega)
        have g1 := h1 j hlt
        have hlt' : (j : Int) < (n : Int) := by omega
        have HT : Hid _ := (HS.out j hlt).1
        obtain ⟨m0, m1⟩ := sq_bound (HS.out j hlt).2
        obtain ⟨x0, x1⟩ := (HS.out j hlt).2
        obtain ⟨s0, s1⟩ := HB.out j
        clear h1 hca HS HB HQ HM
        generalize zs.getD j 0 = x at *
        generalize sqN (zs.take j) = S at *
        obtain ⟨P, hP⟩ : ∃ P, x * x = P := ⟨_, rfl⟩
        rw [hP] at m0 m1 HT
        go_wp2_with fail
        go_quiet (fail)
        go_wp2
        go_roundw
        case rel => exact ⟨j + 1, hlt, by go_num, by rw [HT.out], d + nq, rfl⟩
        case measure => simp [RowKit.intOf]; omega
      · obtain rfl : j = n := by omega
        obtain ⟨e1, e2⟩ := HM.out
        obtain ⟨s0, s1⟩ := HB.out j
        rw [HE.out] at s0 s1 ⊢
        have hc : ∀ W, Calls Try.prog 18 #[zV (sqN zs), zV (j : Nat)] W fun e w' => e = .returned (.tuple #[zV (mnN zs : Nat), zV (sqN zs % (j : Int)), zV 0]) ∧ Drew W w' := fun W => by
          have := refFloor_ok (sqN zs) (j : Int) W ⟨by omega, by omega⟩ (by omega) (by omega)
          rwa [e1] at this
        have HR : Hid (∀ W, _) := hc
        obtain ⟨q1, q2⟩ := HQ.out
        clear hca HB HS HM e1 hc HE HQ
        generalize sqN zs % (j : Int) = S2 at *
        generalize sqN zs = S at *
        generalize mnN zs = M at *
        go_wp2_with fail
        refine (HR.out _).mono ?_
        rintro e w6 ⟨rfl, hd⟩
        have HF6 : Hid (Fresh w w6) := (HF4.out.drewN d).trans hd.fresh (fun _ _ e => e)
        obtain ⟨Q, hQ⟩ : ∃ Q, (r + 1) * (r + 1) = Q := ⟨_, rfl⟩
        have hQ2 : Q ≤ 268435457 * 268435457 := by rw [← hQ]; exact Nat.mul_le_mul (by omega) (by omega)
        have hQ3 : ((r : Int) + 1) * ((r : Int) + 1) = (Q : Int) := by rw [← hQ, Int.natCast_mul]; rfl
        rw [hQ] at q2
        clear hd HR HF4 hQ
        by_cases hr1 : r = 1
        · subst hr1
          obtain rfl : Q = 4 := by simp at hQ3; omega
          clear q1 hQ3
          have h1' : ((1 : Nat) : Int) = 1 := rfl
          rw [h1']
          have HQ2 : Hid (decide ((M : Int) < 4) = true) := decide_eq_true (by omega)
          go_wp2
          go_ret
          exact ⟨ret_bool HQ2.out, HF6.out⟩
        · obtain ⟨P, hP⟩ : ∃ P, r * r = P := ⟨_, rfl⟩
          have hP3 : (r : Int) * (r : Int) = (P : Int) := by rw [← hP, Int.natCast_mul]
          rw [hP] at q1
          have q3 : P ≤ M := by omega
          clear q1 hP
          have hr1' : ((r : Int) == 1) = false := by simp; omega
          have hr2 : (1 : Int) ≤ (r : Int) := by omega
          go_wp2
          go_ret
          exact ⟨rfl, HF6.out⟩
  · have HV : Hid (rV zs = 0) := if_neg h0
    have h0' : (nE zs == 0) = false := by simp [h0]
    have HR : Hid (∀ W, Fresh w W → Rk .i64 (fun b => b < w.heap.size) W (.slice ao zs.length ac) zs) := fun W hF => by rw [← hva]; exact HL.out W hF
    rw [HV.out] at H1
    have H2 : Hid (∀ W, Fresh w W → Calls Try.prog 10 #[.slice ao zs.length ac] W fun e w' => e = .returned (.tuple #[zV 0, zV (nE zs)]) ∧ Drew W w') := fun W hF => by
      have := refRoot_any _ _ _ W (HR.out W hF)
      rwa [HV.out] at this
    subst hva
    clear HL h0 HV HR
    generalize zs.length = n at *
    generalize nE zs = E at *
    go_enter Try.func7, Try.ntmps7
    go_wp2_with fail
    refine (H1.out ()).mono ?_
    rintro e w2 ⟨rfl, hd⟩
    have HF2 : Hid (Fresh w w2) := hd.fresh
    have H3 : Hid (Unit → _) := fun (_ : Unit) => H2.out w2 hd.fresh
    clear H1 hd H2
    go_wp2_with fail
    refine (H3.out ()).mono ?_
    rintro e w3 ⟨rfl, hd⟩
    have HF3 : Hid (Fresh w w3) := HF2.out.trans hd.fresh (fun _ _ e => e)
    clear H3 hd HF2
    go_wp2_with fail
    refine (HAW.out _).mono ?_
    rintro e w4 ⟨rfl, hF4⟩
    have HF4 : Hid (Fresh w w4) := HF3.out.trans hF4 (fun _ _ e => e)
    clear hF4 HF3 HAW
    go_wp2
    go_ret
    exact ⟨rfl, HF4.out⟩

set_option maxRecDepth 100000 in
theorem contract (H : Type) (enc : TypeId × Value → H) (W : World) (base : Nat) (args : Array Value) (ds gs : List (DataW H)) (before : List MemPlace)
    (hval : ∀ (j : Nat) t v, Try.f7.params[j]? = some t → args[j]? = some v → Value.okWide Try.prog W .any base t v)
    (hW : DataW.Whole enc Try.prog Try.f7.params.toList Rows.normSizeSpec.vars false W args.toList ds gs before) 
    (hsz : (DataW.weightsEach Try.prog (Try.f7.params.toList ++ []) (ds ++ gs)).all (· ≤ reachBytes) = true) (hL : laidMetH Try.prog Rows.normSizeRow.laid W) :
    Calls Try.prog 7 args W fun e W' => ∃ v, e = .returned v ∧ Rows.normSizeSpec.post enc Try.prog Try.f7 false true false false W args v W' := by
  have hW' := hW
  obtain ⟨p, q, hA0, hV, rfl, hfz, hnd⟩ := hW
  have hA : DataW.TrodAll enc Try.prog W 0 (fun _ => true) true Try.f7.params.toList args.toList ds p := hA0
  rw [Try.params7] at hA hval hsz
  obtain ⟨rfl, rfl⟩ := trodVars_none hV
  have _hL := hL
  obtain ⟨v0, d0, rfl, rfl, h0⟩ := trodAll_one hA
  obtain ⟨zs, hz⟩ := arg64 (hval 0 22 v0 rfl rfl) h0 hsz (j := 0) rfl rfl
  refine (walk v0 zs W hz).mono fun e W' ⟨he, hk⟩ => ?_
  subst he
  exact ⟨_, rfl, post_law rfl (by kernel_rfl) (by kernel_rfl) hW' rfl hk⟩

set_option maxRecDepth 100000 in
theorem laid_met (os : Os) : laidMet Try.prog Rows.normSizeRow.laid ((layIn (World.holding Try.prog os ⟨#[], #[], []⟩)).forCall (fun _ _ => 0) ⟨#[], #[.slice none 0 0], []⟩).memory :=
  laidMet_of_run' 8 (by kernel_rfl) (by kernel_rfl)
set_option maxRecDepth 100000 in
theorem reads (os : Os) {H : Type} (enc : TypeId × Value → H) : ∃ places, DataW.whole enc Try.prog ((layIn (World.holding Try.prog os ⟨#[], #[], []⟩)).forCall (fun _ _ => 0) ⟨#[], #[.slice none 0 0], []⟩).memory Try.f7.params.toList Rows.normSizeSpec.vars false (#[.slice none 0 0] : Array Value).toList 8 = some ([.nil], [], places) :=
  ⟨[], by kernel_rfl⟩

set_option maxRecDepth 100000 in
theorem lifted (os : Os) (started : os.Started) (H : Type) (enc : TypeId × Value → H) (F : Stop.Interp) :
    ReturnsInHanded {} Try.checked os 7 .any ((OpenSpec.ofChange Rows.normSizeSpec).preRow enc Try.prog Try.f7 Rows.normSizeRow.domain false Rows.normSizeRow.laid) (((OpenSpec.ofChange Rows.normSizeSpec).at F).post enc Try.prog Try.f7 false true false false) := by
  obtain ⟨places, hx⟩ := reads os enc
  refine returnsInHanded_of_row (C := Try.checked) (s := OpenSpec.ofChange Rows.normSizeSpec) Try.own started (by kernel_rfl) Try.func7
    (witness_row_at (enc := enc) (C := Try.checked) false (layIn (World.holding Try.prog os ⟨#[], #[], []⟩)) #[.slice none 0 0] rfl (by kernel_rfl) (by kernel_rfl) (by kernel_rfl)
      (OpenSpec.preRow_of_cond 8 hx (by kernel_rfl) (fun k hk => by cases hk) (by kernel_rfl) (laid_met os))) ?_
  intro W base args ds gs before hval hW _ hc hsz hL _ _
  exact contract H enc W base args ds gs before hval hW hsz hL

theorem said : Rows.NormSizeSaid :=
  OpenClaim.holds_of_cond 7 Try.f7 rfl rfl rfl rfl rfl rfl rfl ⟨rfl, rfl, rfl, rfl, rfl⟩ rfl rfl rfl rfl rfl (by kernel_rfl) Try.func7 (by kernel_rfl)
    (of_decide_eq_true (by kernel_rfl)) (by unfold Func.isWrapper; first | (rw [if_pos (by decide +kernel)]; kernel_rfl) | (rw [if_neg (by decide +kernel)]; exact ⟨rfl, rfl⟩))
    (fun os started H enc _ F => by rw [OpenClaim.pre_eq_preRow]; exact lifted os started H enc F)


end Go.Proofs.Ytibbifklnimlcaa.Size9
namespace Go.Proofs.Ytibbifklnimlcaa
theorem normSize_holds : Rows.NormSizeSaid := Size9.said
end Go.Proofs.Ytibbifklnimlcaa
