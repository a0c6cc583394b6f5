/-
  For every list of scores, every list of weights and every int the statement SoftSames answers true: awake does; all refuse as the document does; a mask that lets all be, a slope of 0 and a mixture of one change nothing; its card, tied to the program's text.
-/
import Derived.Test.YtohoppnpbgplnabDoorSfi
import Derived.Test.YtohoppnpbgplnabDoorSfk
import Derived.Test.YtohoppnpbgplnabDoorSfp
import Derived.Test.YtohoppnpbgplnabDoorSfw
import Derived.Test.YtohoppnpbgplnabDoorSfv
namespace Go.Proofs.YtohoppnpbgplnabDoor.SSames
open Go.ChangeShapes Go.WideShapes Go.ChangeAt Go.RowKit Go.Lib Go.Maps

abbrev R6 (W : World) (v : Value) (L : List Int) : Prop := Rk .i64 (fun _ => True) W v L
theorem gr {L : List Int} {E : Int} {w w' : World} {x : Ending} (h : Gives .i64 2 L E w x w') (hl : L.length ≤ 512) (hz : ∀ z ∈ L, Fit .i64 z) : ∃ v, x = .returned (.tuple #[v, zV E]) ∧ R6 w' v L ∧ Fresh w w' := by
  obtain ⟨v, h1, h2, h3⟩ := h.row (room64 hl) hz
  exact ⟨v, h1, h2.mono (fun _ _ => trivial), h3⟩
/-- A mask that lets all be. -/
abbrev allB (n : Nat) : List Bool := List.replicate n true
theorem all_get {n k : Nat} (h : k < n) : (allB n).getD k false = true := by rw [List.getD_eq_getElem?_getD]; simp [h]
theorem ct_all {n : Nat} : ∀ {k : Nat}, k ≤ n → ct (allB n) k = k
  | 0, _ => rfl
  | k + 1, h => by rw [ct_yes (all_get (by omega)), ct_all (by omega)]
theorem sel_all (zs : List Int) : ∀ {k : Nat}, k ≤ zs.length → selL zs (allB zs.length) k = zs.take k
  | 0, _ => by simp [selL, plN]
  | k + 1, h => by rw [selL_yes (all_get (by omega)), sel_all zs (by omega), take_snocD (by omega)]
theorem ma_all (zs : List Int) : maL zs (allB zs.length) = woL zs ∧ maE zs (allB zs.length) = wE zs.length := by
  by_cases h : 1 ≤ zs.length ∧ zs.length ≤ 512
  · obtain ⟨e1, e2⟩ := ma_ok (zs := zs) (mk := allB zs.length) h.1 h.2 (by simp) (by rw [ct_all (Nat.le_refl _)]; omega)
    rw [e1, e2, woL_ok h.1 h.2, wE_ok h.1 h.2]
    refine ⟨?_, rfl⟩
    unfold wL
    apply List.ext_getElem
    · simp [mkL]
    · intro i h1 h2
      have hi : i < zs.length := by simpa [mkL] using h1
      simp only [mkL, List.getElem_map, List.getElem_range]
      unfold maF
      rw [if_pos (all_get hi), ct_all (Nat.le_of_lt hi), sel_all zs (Nat.le_refl _), List.take_length]
  · obtain ⟨e1, e2⟩ := ma_arg (zs := zs) (mk := allB zs.length) (.inl (by omega))
    rw [e1, e2, woL_bad (by omega), wE_bad (by omega)]
    exact ⟨rfl, rfl⟩
theorem so_zero {zs : List Int} (h : soE zs 0 = 0) : soL zs 0 = woL zs := by
  have e : soL zs 0 = wL (slL zs 0) := if_pos h
  have hn : 1 ≤ zs.length ∧ zs.length ≤ 512 := by
    unfold soE at h
    split at h
    · cases h
    · omega
  have e2 : slL zs 0 = zs := by
    have : slF zs 0 zs.length = fun i => zs.getD i 0 := by
      funext i
      unfold slF
      omega
    unfold slL
    rw [this]
    exact mkL_take
  rw [e, e2, woL_ok hn.1 hn.2]
theorem mi_same {ws : List Int} {pt : Int} (h : miE ws ws pt = 0) : miL ws ws pt = ws := by
  have e : miL ws ws pt = mkL ws.length (miF ws ws pt) := if_pos h
  have e2 : miF ws ws pt = fun i => ws.getD i 0 := by
    funext i
    unfold miF
    rw [← Int.add_mul, show 65536 - pt + pt = 65536 by omega, Int.mul_comm]
    exact Int.mul_ediv_cancel _ (by omega)
  rw [e, e2]
  exact mkL_take
/-- One bool behind a row of one's own. -/
theorem pushB (X : World) (B g c j : Nat) (us : List Value) (hown : X.ownsRow B 4 1 (.slice (some ⟨g, 0, none⟩) j c) j us) (hj : j + 1 ≤ 140737488355328) (hB : B ≤ X.heap.size) :
    ∃ g' c' X', (Builtin.append_ #[40, 40] 40 #[.slice (some ⟨g, 0, none⟩) j c, .slice (some ⟨X.heap.size, 0, none⟩) 1 1]).run Tryd.prog (X.alloc (.cells #[.bool true] 4)) = .ok (.slice (some ⟨g', 0, none⟩) (j + 1) c') X' ∧
      X'.ownsRow B 4 1 (.slice (some ⟨g', 0, none⟩) (j + 1) c') (j + 1) (us ++ [.bool true]) ∧ Kept (fun b => b = g) X X' := by
  have hinfo : (Tryd.prog.info? 4).map (fun i => (i.zero, i.size, i.bytes)) = some (some (.bool false), 1, 1) := by kernel_rfl
  obtain ⟨i0, hi0, hz0, hz1, hz2⟩ := info_parts hinfo
  have hY : (X.alloc (.cells #[.bool true] 4)).ownsRow B 4 1 (.slice (some ⟨g, 0, none⟩) j c) j us := owns_kept hown ((Kept.refl (fun _ => False) X).alloc _) (fun _ _ e => e)
  obtain ⟨v', w', hrun, ho, hg, _, hb⟩ := run_append_own_at (P := Tryd.prog) (X.alloc (.cells #[.bool true] 4)) B 40 40 4 i0 _ 1 1 Tryd.underlying40 hi0 hz0 hz1 hz2 rfl (by omega) _ j _ hY ⟨X.heap.size, 0, none⟩ 1 1 [.bool true] rfl (fun q x hq => cell_one_new X (.bool true) 4 q x hq) (fun x hx => by simp at hx; subst hx; rfl) (by unfold maxLen; omega) (by omega) (by simp; omega)
  obtain ⟨g', c', rfl⟩ : ∃ g' c', v' = .slice (some ⟨g', 0, none⟩) (j + 1) c' := by
    rcases ho.2 with ⟨_, e⟩ | ⟨g', cap', cur, hv, _⟩
    · omega
    · exact ⟨g', cap', hv⟩
  exact ⟨g', c', w', hrun, ho, ((Kept.refl (fun b => b = g) X).alloc _).grown hg (fun q _ e => by simp [Value.ownBlock] at e; exact e.symm)⟩
theorem rb_all {X : World} {B g c n : Nat} (h : X.ownsRow B 4 1 (.slice (some ⟨g, 0, none⟩) n c) n (List.replicate n (.bool true))) (hn : n ≤ 140737488351232) : Rb (fun _ => True) X (.slice (some ⟨g, 0, none⟩) n c) (allB n) := by
  refine ⟨_, c, by simp, by simpa using hn, fun _ => ⟨g, 0, rfl, trivial, (own_block h).2.1, fun i hi => ?_⟩⟩
  have hi' : i < n := by simpa using hi
  rw [all_get hi', Nat.zero_add, h.cellAt i (by omega)]
  simp [hi']

set_option maxHeartbeats 16000000 in
set_option maxRecDepth 100000 in
theorem walk (lv gv : Value) (zs ws : List Int) (pt : Int) (w : World) (hB : Bend w) (hl : Rk .i64 (fun b => b < w.heap.size) w lv zs) (hg : Rk .i64 (fun b => b < w.heap.size) w gv ws) (hpt : I64 pt) :
    Calls Tryd.prog 5 #[lv, gv, zV pt] w fun e w' => e = .returned (.bool true) ∧ Fresh w w' := by
  have HP00 : Hid (∀ W, Fresh w W → Bend W ∧ Rk .i64 (fun b => b < w.heap.size) W lv zs ∧ Rk .i64 (fun b => b < w.heap.size) W gv ws) := fun W hF => ⟨hB.fresh hF, hl.fresh hF, hg.fresh hF⟩
  have HI : Hid (I64 pt ∧ I64 0) := ⟨hpt, by decide, by decide⟩
  have hmany := hl.len
  simp only [kb] at hmany
  obtain ⟨lo, lc, rfl, _⟩ := hl.shape
  obtain ⟨go, gc, rfl, _⟩ := hg.shape
  have hS : Hid ((w.alloc (.cells #[] 4)).ownsRow w.heap.size 4 1 (.slice (some ⟨w.heap.size, 0, none⟩) 0 0) 0 (List.replicate 0 (.bool true)) ∧ Fresh w (w.alloc (.cells #[] 4))) := ⟨own_empty w _ (Nat.le_refl _) _, (Kept.refl _ w).alloc _⟩
  obtain ⟨n, hn⟩ : ∃ n, zs.length = n := ⟨_, rfl⟩
  have HN : Hid (zs.length = n) := hn
  rw [hn] at hmany HP00 ⊢
  clear hB hl hg hpt hn
  generalize hW0 : w.alloc (.cells #[] 4) = W0 at *
  go_enter Tryd.func5, Tryd.ntmps5
  go_wp2
  clear hW0
  go_loopw [7, 8] (fun ov iv wr => ∃ j g c : Nat, j ≤ n ∧ iv = zV j ∧ ov = .slice (some ⟨g, 0, none⟩) j c ∧ Hid (wr.ownsRow w.heap.size 4 1 (.slice (some ⟨g, 0, none⟩) j c) j (List.replicate j (.bool true)) ∧ Fresh w wr)) (fun _ iv _ => n - (RowKit.intOf iv).toNat)
  case atStart => exact ⟨0, _, _, Nat.zero_le _, rfl, rfl, hS.out⟩
  case round =>
    obtain ⟨j, og, oc, hj, rfl, rfl, HA⟩ := hrel
    clear hS
    by_cases hlt : j < n
    · have hlt' : (j : Int) < (n : Int) := by omega
      obtain ⟨g', c', X', hr1, ho, hk⟩ := pushB wr w.heap.size og oc j _ HA.out.1 (by omega) HA.out.2.size
      have hgo := (own_block HA.out.1).1
      have HX : Hid (X'.ownsRow w.heap.size 4 1 (.slice (some ⟨g', 0, none⟩) (j + 1) c') (j + 1) (List.replicate (j + 1) (.bool true)) ∧ Fresh w X') := ⟨by rw [List.replicate_succ']; exact ho, HA.out.2.trans hk (fun i hi e => by omega)⟩
      clear HA ho hk hgo HP00 HN HI
      go_wp2_with (at_builtin; refine Lib.wpList_append_run _ rfl _ _ _ _ rfl _ _ rfl rfl _ _ hr1 ?_)
      go_roundw
      case rel => exact ⟨j + 1, g', c', hlt, by go_num, rfl, HX.out⟩
      case measure => simp [RowKit.intOf]; omega
    · obtain rfl : j = n := by omega
      obtain ⟨w0, hw0⟩ : ∃ w0, w0 = wr := ⟨_, rfl⟩
      rw [← hw0] at HA
      rw [← hw0]
      clear hw0
      have HRb : Hid (Rb (fun _ => True) w0 (.slice (some ⟨og, 0, none⟩) j oc) (allB zs.length)) := by
        show Rb _ _ _ _
        rw [HN.out]
        exact rb_all HA.out.1 (by omega)
      have HP : Hid (∀ W, Fresh w0 W → Bend W ∧ Rk .i64 (fun b => b < w.heap.size) W (.slice lo j lc) zs ∧ Rk .i64 (fun b => b < w.heap.size) W (.slice go ws.length gc) ws ∧ Rb (fun _ => True) W (.slice (some ⟨og, 0, none⟩) j oc) (allB zs.length)) := fun W hF => by
        obtain ⟨a, b, c⟩ := HP00.out W (HA.out.2.trans hF (fun _ _ e => e))
        exact ⟨a, b, c, HRb.out.fresh hF⟩
      have HF00 : Hid (Fresh w w0) := HA.out.2
      have HMA : Hid _ := ma_all zs
      have HF0 : Hid (Fresh w0 w0) := Kept.refl _ _
      have HCo : Hid (woL zs = woL zs) := rfl
      clear HA HP00 HRb
      have H1 : Hid (Unit → _) := fun (_ : Unit) => Weights_any _ _ zs w0 (HP.out w0 HF0.out).1 (HP.out w0 HF0.out).2.1
      go_wp2_with fail
      refine (H1.out ()).mono ?_
      rintro e w1 hG
      obtain ⟨v1, rfl, hR1, hF1⟩ := gr hG (woL_len _) (woL_fit _)
      have HF1 : Hid (Fresh w0 w1) := HF0.out.trans hF1 (fun _ _ e => e)
      have HR1 : Hid (∀ W, Fresh w1 W → R6 W v1 (woL zs)) := fun W hF => hR1.fresh hF
      clear H1 hG hR1 hF1
      have H2 : Hid (Unit → _) := fun (_ : Unit) => Masked_any _ _ _ _ zs (allB zs.length) w1 (HP.out w1 HF1.out).1 (HP.out w1 HF1.out).2.1 (HP.out w1 HF1.out).2.2.2
      rw [HMA.out.1, HMA.out.2] at H2
      go_wp2_with fail
      refine (H2.out ()).mono ?_
      rintro e w2 hG
      obtain ⟨v2, rfl, hR2, hF2⟩ := gr hG (woL_len _) (woL_fit _)
      have HF2 : Hid (Fresh w0 w2) := HF1.out.trans hF2 (fun _ _ e => e)
      have HR2 : Hid (∀ W, Fresh w2 W → R6 W v2 (woL zs)) := fun W hF => hR2.fresh hF
      have HR1 : Hid (∀ W, Fresh w2 W → R6 W v1 (woL zs)) := fun W hF => HR1.out W (hF2.trans hF (fun _ _ e => e))
      clear H2 hG hR2 hF2
      have H3 : Hid (Unit → _) := fun (_ : Unit) => Sloped_any _ _ zs 0 w2 (HP.out w2 HF2.out).1 (HP.out w2 HF2.out).2.1 HI.out.2
      go_wp2_with fail
      refine (H3.out ()).mono ?_
      rintro e w3 hG
      obtain ⟨v3, rfl, hR3, hF3⟩ := gr hG (soL_len _ _) (soL_fit _ _)
      have HF3 : Hid (Fresh w0 w3) := HF2.out.trans hF3 (fun _ _ e => e)
      have HR3 : Hid (∀ W, Fresh w3 W → R6 W v3 (soL zs 0)) := fun W hF => hR3.fresh hF
      have HR1 : Hid (∀ W, Fresh w3 W → R6 W v1 (woL zs)) := fun W hF => HR1.out W (hF3.trans hF (fun _ _ e => e))
      have HR2 : Hid (∀ W, Fresh w3 W → R6 W v2 (woL zs)) := fun W hF => HR2.out W (hF3.trans hF (fun _ _ e => e))
      clear H3 hG hR3 hF3
      have H4 : Hid (Unit → _) := fun (_ : Unit) => refSloped_any _ _ zs 0 w3 (HP.out w3 HF3.out).2.1 HI.out.2
      go_wp2_with fail
      refine (H4.out ()).mono ?_
      rintro e w4 hG
      obtain ⟨v4, rfl, hR4, hF4⟩ := gr hG (soL_len _ _) (soL_fit _ _)
      have HF4 : Hid (Fresh w0 w4) := HF3.out.trans hF4 (fun _ _ e => e)
      have HR4 : Hid (∀ W, Fresh w4 W → R6 W v4 (soL zs 0)) := fun W hF => hR4.fresh hF
      have HR1 : Hid (∀ W, Fresh w4 W → R6 W v1 (woL zs)) := fun W hF => HR1.out W (hF4.trans hF (fun _ _ e => e))
      have HR2 : Hid (∀ W, Fresh w4 W → R6 W v2 (woL zs)) := fun W hF => HR2.out W (hF4.trans hF (fun _ _ e => e))
      have HR3 : Hid (∀ W, Fresh w4 W → R6 W v3 (soL zs 0)) := fun W hF => HR3.out W (hF4.trans hF (fun _ _ e => e))
      clear H4 hG hR4 hF4
      have H5 : Hid (Unit → _) := fun (_ : Unit) => refWeights_any _ _ zs w4 (HP.out w4 HF4.out).2.1
      go_wp2_with fail
      refine (H5.out ()).mono ?_
      rintro e w5 hG
      obtain ⟨v5, rfl, hR5, hF5⟩ := gr hG (woL_len _) (woL_fit _)
      have HF5 : Hid (Fresh w0 w5) := HF4.out.trans hF5 (fun _ _ e => e)
      have HR5 : Hid (∀ W, Fresh w5 W → R6 W v5 (woL zs)) := fun W hF => hR5.fresh hF
      have HR1 : Hid (∀ W, Fresh w5 W → R6 W v1 (woL zs)) := fun W hF => HR1.out W (hF5.trans hF (fun _ _ e => e))
      have HR2 : Hid (∀ W, Fresh w5 W → R6 W v2 (woL zs)) := fun W hF => HR2.out W (hF5.trans hF (fun _ _ e => e))
      have HR3 : Hid (∀ W, Fresh w5 W → R6 W v3 (soL zs 0)) := fun W hF => HR3.out W (hF5.trans hF (fun _ _ e => e))
      have HR4 : Hid (∀ W, Fresh w5 W → R6 W v4 (soL zs 0)) := fun W hF => HR4.out W (hF5.trans hF (fun _ _ e => e))
      clear H5 hG hR5 hF5
      have H6 : Hid (Unit → _) := fun (_ : Unit) => Mix_any _ _ _ _ ws ws pt w5 (HP.out w5 HF5.out).2.2.1 (HP.out w5 HF5.out).2.2.1 HI.out.1
      go_wp2_with fail
      refine (H6.out ()).mono ?_
      rintro e w6 hG
      obtain ⟨v6, rfl, hR6, hF6⟩ := gr hG (miL_len _ _ _) (miL_fit _ _ _)
      have HF6 : Hid (Fresh w0 w6) := HF5.out.trans hF6 (fun _ _ e => e)
      have HR6 : Hid (∀ W, Fresh w6 W → R6 W v6 (miL ws ws pt)) := fun W hF => hR6.fresh hF
      have HR1 : Hid (∀ W, Fresh w6 W → R6 W v1 (woL zs)) := fun W hF => HR1.out W (hF6.trans hF (fun _ _ e => e))
      have HR2 : Hid (∀ W, Fresh w6 W → R6 W v2 (woL zs)) := fun W hF => HR2.out W (hF6.trans hF (fun _ _ e => e))
      have HR3 : Hid (∀ W, Fresh w6 W → R6 W v3 (soL zs 0)) := fun W hF => HR3.out W (hF6.trans hF (fun _ _ e => e))
      have HR4 : Hid (∀ W, Fresh w6 W → R6 W v4 (soL zs 0)) := fun W hF => HR4.out W (hF6.trans hF (fun _ _ e => e))
      have HR5 : Hid (∀ W, Fresh w6 W → R6 W v5 (woL zs)) := fun W hF => HR5.out W (hF6.trans hF (fun _ _ e => e))
      clear H6 hG hR6 hF6
      have H7 : Hid (Unit → _) := fun (_ : Unit) => refMix_any _ _ _ _ ws ws pt w6 (HP.out w6 HF6.out).2.2.1 (HP.out w6 HF6.out).2.2.1 HI.out.1
      go_wp2_with fail
      refine (H7.out ()).mono ?_
      rintro e w7 hG
      obtain ⟨v7, rfl, hR7, hF7⟩ := gr hG (miL_len _ _ _) (miL_fit _ _ _)
      have HF7 : Hid (Fresh w0 w7) := HF6.out.trans hF7 (fun _ _ e => e)
      have HR7 : Hid (∀ W, Fresh w7 W → R6 W v7 (miL ws ws pt)) := fun W hF => hR7.fresh hF
      have HR1 : Hid (∀ W, Fresh w7 W → R6 W v1 (woL zs)) := fun W hF => HR1.out W (hF7.trans hF (fun _ _ e => e))
      have HR2 : Hid (∀ W, Fresh w7 W → R6 W v2 (woL zs)) := fun W hF => HR2.out W (hF7.trans hF (fun _ _ e => e))
      have HR3 : Hid (∀ W, Fresh w7 W → R6 W v3 (soL zs 0)) := fun W hF => HR3.out W (hF7.trans hF (fun _ _ e => e))
      have HR4 : Hid (∀ W, Fresh w7 W → R6 W v4 (soL zs 0)) := fun W hF => HR4.out W (hF7.trans hF (fun _ _ e => e))
      have HR5 : Hid (∀ W, Fresh w7 W → R6 W v5 (woL zs)) := fun W hF => HR5.out W (hF7.trans hF (fun _ _ e => e))
      have HR6 : Hid (∀ W, Fresh w7 W → R6 W v6 (miL ws ws pt)) := fun W hF => HR6.out W (hF7.trans hF (fun _ _ e => e))
      clear H7 hG hR7 hF7
      have HAW : Hid (Unit → _) := fun (_ : Unit) => awake_any w7 (HP.out w7 HF7.out).1
      have HSo : Hid (soE zs 0 = 0 → soL zs 0 = woL zs) := so_zero
      have HMi : Hid (miE ws ws pt = 0 → miL ws ws pt = ws) := mi_same
      have HWs : Hid (∀ W, Fresh w7 W → R6 W (.slice go ws.length gc) ws) := fun W hF => (HP.out W (HF7.out.trans hF (fun _ _ e => e))).2.2.1.mono (fun _ _ => trivial)
      clear HP HI HMA HN HCo
      generalize wE zs.length = E1 at *
      generalize soE zs 0 = E2 at *
      generalize miE ws ws pt = E3 at *
      generalize ws.length = m at *
      go_wp2_with fail
      refine (HAW.out ()).mono ?_
      rintro e w8 ⟨rfl, hF8⟩
      have HF8 : Hid (Fresh w7 w8) := hF8
      have HC8 : Hid (Unit → _) := fun (_ : Unit) => longs_any _ _ _ _ _ w8 (HR1.out w8 hF8) (HR2.out w8 hF8)
      clear hF8 HAW
      go_wp2_with fail
      refine (HC8.out ()).mono ?_
      rintro e w9 ⟨rfl, n9, hd9⟩
      have HF9 : Hid (Fresh w7 w9) := by show Fresh _ _; rw [hd9]; exact HF8.out.drewN n9
      have HEnd : Hid (∀ W, Fresh w7 W → Fresh w W) := fun W hF => (HF00.out.trans HF7.out (fun _ _ e => e)).trans hF (fun _ _ e => e)
      clear hd9 HC8 HF8
      by_cases q1 : E2 = 0
      · rw [HSo.out q1] at HR3
        subst q1
        by_cases q2 : E3 = 0
        · rw [HMi.out q2] at HR6
          subst q2
          clear HSo HMi
          have HC9 : Hid (Unit → _) := fun (_ : Unit) => longs_any _ _ _ _ _ w9 (HR1.out w9 HF9.out) (HR3.out w9 HF9.out)
          go_wp2_with fail
          refine (HC9.out ()).mono ?_
          rintro e w10 ⟨rfl, n10, hd10⟩
          have HF10 : Hid (Fresh w7 w10) := by show Fresh _ _; rw [hd10]; exact HF9.out.drewN n10
          clear hd10 HC9
          have HC10 : Hid (Unit → _) := fun (_ : Unit) => longs_any _ _ _ _ _ w10 (HR6.out w10 HF10.out) (HWs.out w10 HF10.out)
          go_wp2_with fail
          refine (HC10.out ()).mono ?_
          rintro e w11 ⟨rfl, n11, hd11⟩
          have HF11 : Hid (Fresh w w11) := by show Fresh _ _; rw [hd11]; exact HEnd.out _ (HF10.out.drewN n11)
          clear hd11 HC10
          clear HR1 HR2 HR3 HR4 HR5 HR6 HR7 HWs HEnd HF9 HF10
          go_wp2
          go_ret
          exact ⟨by simp, HF11.out⟩
        · have q2' : (E3 == 0) = false := by simp [q2]
          clear HSo HMi
          have HC9 : Hid (Unit → _) := fun (_ : Unit) => longs_any _ _ _ _ _ w9 (HR1.out w9 HF9.out) (HR3.out w9 HF9.out)
          go_wp2_with fail
          refine (HC9.out ()).mono ?_
          rintro e w10 ⟨rfl, n10, hd10⟩
          have HF10 : Hid (Fresh w7 w10) := by show Fresh _ _; rw [hd10]; exact HF9.out.drewN n10
          clear hd10 HC9
          have HF11 : Hid (Fresh w w10) := HEnd.out _ HF10.out
          clear HR1 HR2 HR3 HR4 HR5 HR6 HR7 HWs HEnd HF9 HF10
          go_wp2
          go_ret
          exact ⟨by simp, HF11.out⟩
      · have q1' : (E2 == 0) = false := by simp [q1]
        by_cases q2 : E3 = 0
        · rw [HMi.out q2] at HR6
          subst q2
          clear HSo HMi
          have HF10 : Hid (Fresh w7 w9) := HF9.out
          have HC10 : Hid (Unit → _) := fun (_ : Unit) => longs_any _ _ _ _ _ w9 (HR6.out w9 HF10.out) (HWs.out w9 HF10.out)
          go_wp2_with fail
          refine (HC10.out ()).mono ?_
          rintro e w11 ⟨rfl, n11, hd11⟩
          have HF11 : Hid (Fresh w w11) := by show Fresh _ _; rw [hd11]; exact HEnd.out _ (HF10.out.drewN n11)
          clear hd11 HC10
          clear HR1 HR2 HR3 HR4 HR5 HR6 HR7 HWs HEnd HF9 HF10
          go_wp2
          go_ret
          exact ⟨by simp, HF11.out⟩
        · have q2' : (E3 == 0) = false := by simp [q2]
          clear HSo HMi
          have HF10 : Hid (Fresh w7 w9) := HF9.out
          have HF11 : Hid (Fresh w w9) := HEnd.out _ HF10.out
          clear HR1 HR2 HR3 HR4 HR5 HR6 HR7 HWs HEnd HF9 HF10
          go_wp2
          go_ret
          exact ⟨by simp, HF11.out⟩

set_option maxRecDepth 100000 in
theorem contract (H : Type) (enc : TypeId × Value → H) (W : World) (base : Nat) (args : Array Value) (ds gs : List (DataW H)) (before : List MemPlace)
    (hval : ∀ (j : Nat) t v, Tryd.f5.params[j]? = some t → args[j]? = some v → Value.okWide Tryd.prog W .any base t v)
    (hW : DataW.Whole enc Tryd.prog Tryd.f5.params.toList Rows.softSamesSpec.vars false W args.toList ds gs before) 
    (hsz : (DataW.weightsEach Tryd.prog (Tryd.f5.params.toList ++ []) (ds ++ gs)).all (· ≤ reachBytes) = true) (hL : laidMetH Tryd.prog Rows.softSamesRow.laid W) :
    Calls Tryd.prog 5 args W fun e W' => ∃ v, e = .returned v ∧ Rows.softSamesSpec.post enc Tryd.prog Tryd.f5 false true false false W args v W' := by
  have hW' := hW
  obtain ⟨p, q, hA0, hV, rfl, hfz, hnd⟩ := hW
  have hA : DataW.TrodAll enc Tryd.prog W 0 (fun _ => true) true Tryd.f5.params.toList args.toList ds p := hA0
  rw [Tryd.params5] at hA hval hsz
  obtain ⟨rfl, rfl⟩ := trodVars_none hV
  obtain ⟨v0, v1, v2, d0, d1, d2, p0, p1, p2, rfl, rfl, rfl, h0, h1, h2⟩ := trodAll_three hA
  obtain ⟨zs, hz⟩ := arg64 (hval 0 22 v0 rfl rfl) h0 hsz (j := 0) rfl rfl
  obtain ⟨gs, hg⟩ := arg64 (hval 1 22 v1 rfl rfl) h1 hsz (j := 1) rfl rfl
  obtain ⟨x2, rfl, rfl, rfl, w2⟩ := open_int Tryd.underlying3 (hval 2 3 v2 rfl rfl) h2
  refine (walk v0 v1 zs gs x2 W (bend_of_laid hL) hz hg (i64_of w2)).mono fun e W' ⟨he, hk⟩ => ?_
  subst he
  exact ⟨_, rfl, post_law rfl (by kernel_rfl) (by kernel_rfl) hW' rfl hk⟩

set_option maxRecDepth 100000 in
theorem laid_met (os : Os) : laidMet Tryd.prog Rows.softSamesRow.laid ((layIn (World.holding Tryd.prog os ⟨#[], #[], []⟩)).forCall (fun _ _ => 0) ⟨#[], #[.slice none 0 0, .slice none 0 0, .int .i64 0], []⟩).memory :=
  laidMet_of_run' 8 (by kernel_rfl) (by kernel_rfl)
set_option maxRecDepth 100000 in
theorem reads (os : Os) {H : Type} (enc : TypeId × Value → H) : ∃ places, DataW.whole enc Tryd.prog ((layIn (World.holding Tryd.prog os ⟨#[], #[], []⟩)).forCall (fun _ _ => 0) ⟨#[], #[.slice none 0 0, .slice none 0 0, .int .i64 0], []⟩).memory Tryd.f5.params.toList Rows.softSamesSpec.vars false (#[.slice none 0 0, .slice none 0 0, .int .i64 0] : Array Value).toList 8 = some ([.nil, .nil, .lit (.int .i64 0)], [], places) :=
  ⟨[], by kernel_rfl⟩

set_option maxRecDepth 100000 in
theorem lifted (os : Os) (started : os.Started) (H : Type) (enc : TypeId × Value → H) (F : Stop.Interp) :
    ReturnsInHanded {} Tryd.checked os 5 .any ((OpenSpec.ofChange Rows.softSamesSpec).preRow enc Tryd.prog Tryd.f5 Rows.softSamesRow.domain false Rows.softSamesRow.laid) (((OpenSpec.ofChange Rows.softSamesSpec).at F).post enc Tryd.prog Tryd.f5 false true false false) := by
  obtain ⟨places, hx⟩ := reads os enc
  refine returnsInHanded_of_row (C := Tryd.checked) (s := OpenSpec.ofChange Rows.softSamesSpec) Tryd.own started (by kernel_rfl) Tryd.func5
    (witness_row_at (enc := enc) (C := Tryd.checked) false (layIn (World.holding Tryd.prog os ⟨#[], #[], []⟩)) #[.slice none 0 0, .slice none 0 0, .int .i64 0] rfl (by kernel_rfl) (by kernel_rfl) (by kernel_rfl)
      (OpenSpec.preRow_of_cond 8 hx (by kernel_rfl) (fun k hk => by cases hk) (by kernel_rfl) (laid_met os))) ?_
  intro W base args ds gs before hval hW _ hc hsz hL _ _
  exact contract H enc W base args ds gs before hval hW hsz hL

theorem said : Rows.SoftSamesSaid :=
  OpenClaim.holds_of_cond 5 Tryd.f5 rfl rfl rfl rfl rfl rfl rfl ⟨rfl, rfl, rfl, rfl, rfl⟩ rfl rfl rfl rfl rfl (by kernel_rfl) Tryd.func5 (by kernel_rfl)
    (of_decide_eq_true (by kernel_rfl)) (by unfold Func.isWrapper; first | (rw [if_pos (by decide +kernel)]; kernel_rfl) | (rw [if_neg (by decide +kernel)]; exact ⟨rfl, rfl⟩))
    (fun os started H enc _ F => by rw [OpenClaim.pre_eq_preRow]; exact lifted os started H enc F)

theorem plain (f : FuncId) (fn : Func) (hf : Tryd.pinned.checked.prog.funcNamed Rows.softSamesRow.func = some f) (hfn : Tryd.pinned.checked.prog.funcs[f]? = some fn) :
    false = Tryd.pinned.checked.prog.looks [] ∧ ∀ (j : Nat) t, fn.params[j]? = some t → Tryd.pinned.checked.prog.wantsStandIn t = false := by
  obtain rfl : f = 5 := Option.some.inj ((show Tryd.prog.funcNamed Rows.softSamesRow.func = some 5 by kernel_rfl).symm.trans hf) |>.symm
  obtain rfl : fn = Tryd.f5 := (Option.some.inj (Tryd.func5.symm.trans hfn)).symm
  refine ⟨by kernel_rfl, fun j t ht => ?_⟩
  have hall : (Tryd.f5.params.toList.all fun u => !Tryd.prog.wantsStandIn u) = true := by kernel_rfl
  exact (show Tryd.prog.wantsStandIn t = false by simpa using List.all_eq_true.1 hall t (Array.mem_toList_iff.2 (Array.mem_of_getElem? ht)))

theorem card : Rows.SoftSamesCardSaid :=
  Claim7.holds_tied_plain_at .later [] _ _ _ _ said (fun _ h => by cases h) (by kernel_rfl) (fun _ h => by cases h) softSames_row_tie rfl ⟨rfl, rfl⟩ (by kernel_rfl) rfl plain (by kernel_rfl)

end Go.Proofs.YtohoppnpbgplnabDoor.SSames
namespace Go.Proofs.YtohoppnpbgplnabDoor
theorem softSames_card : Rows.SoftSamesCardSaid := SSames.card
end Go.Proofs.YtohoppnpbgplnabDoor
