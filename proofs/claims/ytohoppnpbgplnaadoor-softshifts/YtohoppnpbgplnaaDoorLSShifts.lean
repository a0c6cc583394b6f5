/-
  For every list of scores and every number that is added the statement SoftShifts answers true: awake does; Weights refuses as the document does, answers the same where one number is added to all scores, and a greater score has no lesser weight; its card, tied to the program's text.
-/
import Derived.Test.YtohoppnpbgplnaaDoorSfb
import Derived.Test.YtohoppnpbgplnaaDoorSfw
import Derived.Test.YtohoppnpbgplnaaDoorNof
namespace Go.Proofs.YtohoppnpbgplnaaDoor.SShifts
open Go.ChangeShapes Go.WideShapes Go.ChangeAt Go.RowKit Go.Lib Go.Maps

/-- All scores, with one number added. -/
def sh (zs : List Int) (c : Int) : List Int := mkL zs.length (fun i => zs.getD i 0 + c)
theorem sh_len (zs : List Int) (c : Int) : (sh zs c).length = zs.length := mkL_len _ _
theorem sh_get (zs : List Int) (c : Int) {i : Nat} (h : i < zs.length) : (sh zs c).getD i 0 = zs.getD i 0 + c := mkL_get h
theorem tp_sh (zs : List Int) (c : Int) (h0 : 0 < zs.length) : ∀ k, k ≤ zs.length → tp (sh zs c) k = tp zs k + c
  | 0, _ => sh_get zs c h0
  | k + 1, h => by
    have ih := tp_sh zs c h0 k (by omega)
    have e1 : tp (sh zs c) (k + 1) = max (tp (sh zs c) k) ((sh zs c).getD k 0) := rfl
    have e2 : tp zs (k + 1) = max (tp zs k) (zs.getD k 0) := rfl
    rw [e1, e2, ih, sh_get zs c (by omega)]
    omega
theorem wo_sh (zs : List Int) (c : Int) : woL (sh zs c) = woL zs ∧ wE (sh zs c).length = wE zs.length := by
  refine ⟨?_, by rw [sh_len]⟩
  unfold woL
  rw [sh_len]
  split
  · rename_i h
    have hn := (wE_zero h).1
    unfold wL
    rw [sh_len]
    apply List.ext_getElem
    · simp [mkL]
    · intro i h1 h2
      have hi : i < zs.length := by simpa [mkL] using h1
      simp only [mkL, List.getElem_map, List.getElem_range]
      unfold wF
      rw [sh_len, tp_sh zs c (by omega) _ (Nat.le_refl _), sh_get zs c hi]
      unfold wt dsN
      rw [show zs.getD i 0 + c - (tp zs zs.length + c) = zs.getD i 0 - tp zs zs.length by omega]
  · rfl

set_option maxHeartbeats 8000000 in
set_option maxRecDepth 100000 in
theorem walk (lv : Value) (zs : List Int) (m : Int) (w : World) (hB : Bend w) (hm : I64 m) (hl : Rk .i64 (fun b => b < w.heap.size) w lv zs) :
    Calls Tryd.prog 6 #[lv, zV m] w fun e w' => e = .returned (.bool true) ∧ Fresh w w' := by
  have HL : Hid (∀ W, Fresh w W → Bend W ∧ Rk .i64 (fun b => b < w.heap.size) W lv zs) := fun W hF => ⟨hB.fresh hF, hl.fresh hF⟩
  have HAW : Hid (∀ W, Bend W → _) := fun W hW => awake_any W hW
  have HG : Hid (∀ i, I64 (zs.getD i 0)) := fun i => hl.get i
  have HRL : Hid ((woL zs).length * kb .i64 ≤ 140737488351232 ∧ ∀ z ∈ woL zs, Fit .i64 z) := ⟨woL_room zs, woL_fit zs⟩
  have HLen : Hid (zs.length * kb .i64 ≤ 140737488351232) := hl.len
  obtain ⟨m0, m1⟩ := hm
  have hmany := hl.len
  simp only [kb] at hmany
  obtain ⟨ao, ac, rfl, _⟩ := hl.shape
  have HC1 : Hid _ := hl.stay
  obtain ⟨n, hn⟩ : ∃ n, zs.length = n := ⟨_, rfl⟩
  have HN : Hid (zs.length = n) := hn
  rw [hn] at HC1 hmany HL ⊢
  have hS : Hid (Grw .i64 2 w (fun i => zs.getD i 0 + m) 0 w.heap.size 0 (w.alloc (.cells #[] 2))) := Grw.start _ (Kept.refl _ w)
  clear hl hB hn
  generalize hW0 : w.alloc (.cells #[] 2) = W0 at *
  go_enter Tryd.func6, Tryd.ntmps6
  go_wp2
  clear hW0
  go_loopw [5, 6] (fun ov iv wr => ∃ j g c : Nat, j ≤ n ∧ iv = zV j ∧ ov = .slice (some ⟨g, 0, none⟩) j c ∧ Hid ((∀ i, i < j → I64 (zs.getD i 0 + m)) ∧ Grw .i64 2 w (fun i => zs.getD i 0 + m) j g c wr)) (fun _ iv _ => n - (RowKit.intOf iv).toNat)
  case atStart => exact ⟨0, _, _, Nat.zero_le _, rfl, rfl, fun i hi => absurd hi (Nat.not_lt_zero _), hS.out⟩
  case round =>
    obtain ⟨j, og, oc, hj, rfl, rfl, HA⟩ := hrel
    clear hS
    by_cases hlt : j < n
    · obtain ⟨b, off, rfl, hcell⟩ := HC1.out (by omega)
      have g1 := hcell wr HA.out.2.fresh j hlt
      have hlt' : (j : Int) < (n : Int) := by omega
      obtain ⟨x0, x1⟩ := HG.out j
      have HAw : Hid (Unit → _) := fun (_ : Unit) => HAW.out wr (HL.out wr HA.out.2.fresh).1
      have HFr : Hid (Fresh w wr) := HA.out.2.fresh
      obtain ⟨g', c', X', hr1, hGr⟩ := HA.out.2.push ty64 (by simp [kb]; omega)
      have HNx : Hid (I64 (zs.getD j 0 + m) → (∀ i, i < j + 1 → I64 (zs.getD i 0 + m)) ∧ Grw .i64 2 w (fun i => zs.getD i 0 + m) (j + 1) g' c' X') := fun hx => ⟨fun i hi => by
        by_cases e : i = j
        · subst e; exact hx
        · exact HA.out.1 i (by omega), hGr⟩
      clear hcell HC1 HG HL HAW HRL HLen HN HA hGr
      generalize zs.getD j 0 = x at *
      by_cases c0 : x < -2305843009213693952
      · clear hr1 HNx
        go_wp2_with fail
        refine (HAw.out ()).mono ?_
        rintro e w2 ⟨rfl, hF2⟩
        have HF2 : Hid (Fresh w w2) := HFr.out.trans hF2 (fun _ _ e => e)
        clear hF2 HAw HFr
        go_wp2
        go_ret
        exact ⟨rfl, HF2.out⟩
      · by_cases c1 : 2305843009213693952 < x
        · clear hr1 HNx
          go_wp2_with fail
          refine (HAw.out ()).mono ?_
          rintro e w2 ⟨rfl, hF2⟩
          have HF2 : Hid (Fresh w w2) := HFr.out.trans hF2 (fun _ _ e => e)
          clear hF2 HAw HFr
          go_wp2
          go_ret
          exact ⟨rfl, HF2.out⟩
        · by_cases c2 : m < -2305843009213693952
          · clear hr1 HNx
            go_wp2_with fail
            refine (HAw.out ()).mono ?_
            rintro e w2 ⟨rfl, hF2⟩
            have HF2 : Hid (Fresh w w2) := HFr.out.trans hF2 (fun _ _ e => e)
            clear hF2 HAw HFr
            go_wp2
            go_ret
            exact ⟨rfl, HF2.out⟩
          · by_cases c3 : 2305843009213693952 < m
            · clear hr1 HNx
              go_wp2_with fail
              refine (HAw.out ()).mono ?_
              rintro e w2 ⟨rfl, hF2⟩
              have HF2 : Hid (Fresh w w2) := HFr.out.trans hF2 (fun _ _ e => e)
              clear hF2 HAw HFr
              go_wp2
              go_ret
              exact ⟨rfl, HF2.out⟩
            · clear HAw HFr
              have HX : Hid _ := HNx.out ⟨by omega, by omega⟩
              clear HNx
              go_wp2_with (at_builtin; refine Lib.wpList_append_run _ rfl _ _ _ _ rfl _ _ rfl rfl _ _ hr1 ?_)
              go_roundw
              case rel => exact ⟨j + 1, g', c', hlt, by go_num, rfl, HX.out⟩
              case measure => simp [RowKit.intOf]; omega
    · obtain rfl : j = n := by omega
      have hRup : Rk .i64 (fun b => w.heap.size ≤ b ∧ b < wr.heap.size) wr (.slice (some ⟨og, 0, none⟩) j oc) (sh zs m) := by
        have h := HA.out.2.1
        have e : sh zs m = mkL j (fun i => zs.getD i 0 + m) := by unfold sh; rw [HN.out]
        rw [← e] at h
        exact rk_of_own h (by rw [sh_len]; exact HLen.out) (fun z hz => by
          rw [e] at hz
          obtain ⟨i, hi, rfl⟩ := mkL_mem hz
          exact HA.out.1 i hi)
      have HFw : Hid (Fresh w wr) := HA.out.2.fresh
      have HL2 : Hid (∀ W, Fresh wr W → (Bend W ∧ Rk .i64 (fun b => b < w.heap.size) W (.slice ao j ac) zs) ∧ Rk .i64 (fun b => w.heap.size ≤ b ∧ b < wr.heap.size) W (.slice (some ⟨og, 0, none⟩) j oc) (sh zs m)) := fun W hF => ⟨HL.out W (HFw.out.trans hF (fun _ _ e => e)), hRup.fresh hF⟩
      have HSh : Hid (woL (sh zs m) = woL zs ∧ wE (sh zs m).length = wE zs.length) := wo_sh zs m
      have H1 : Hid (Unit → _) := fun (_ : Unit) => Weights_any _ _ _ wr (HL2.out wr (Kept.refl _ _)).1.1 (HL2.out wr (Kept.refl _ _)).1.2
      clear hRup HA HL HLen HG
      go_wp2_with fail
      refine (H1.out ()).mono ?_
      rintro e w2 hG
      obtain ⟨v2, rfl, hR2, hF2⟩ := hG.row HRL.out.1 HRL.out.2
      have HF2 : Hid (Fresh wr w2) := hF2
      have HR2 : Hid (Rk .i64 (fun b => wr.heap.size ≤ b ∧ b < w2.heap.size) w2 v2 (woL zs)) := hR2
      have H2 : Hid (Unit → _) := fun (_ : Unit) => Weights_any _ _ _ w2 (HL2.out w2 hF2).1.1 (HL2.out w2 hF2).2
      clear H1 hF2 hG hR2
      rw [HSh.out.1, HSh.out.2] at H2
      go_wp2_with fail
      refine (H2.out ()).mono ?_
      rintro e w3 hG
      obtain ⟨v3, rfl, hR3, hF3⟩ := hG.row HRL.out.1 HRL.out.2
      have HF3 : Hid (Fresh wr w3) := HF2.out.trans hF3 (fun _ _ e => e)
      have HR3 : Hid (∀ W, Fresh w3 W → Rk .i64 (fun b => wr.heap.size ≤ b ∧ b < w2.heap.size) W v2 (woL zs) ∧ Rk .i64 (fun b => w2.heap.size ≤ b ∧ b < w3.heap.size) W v3 (woL zs)) := fun W hF => ⟨(HR2.out.fresh hF3).fresh hF, hR3.fresh hF⟩
      have H3 : Hid (Unit → _) := fun (_ : Unit) => refWeights_any _ _ _ w3 (HL2.out w3 HF3.out).1.2
      clear H2 HF2 hF3 hG hR3 HR2
      go_wp2_with fail
      refine (H3.out ()).mono ?_
      rintro e w4 hG
      obtain ⟨v4, rfl, _, hF4⟩ := hG.row HRL.out.1 HRL.out.2
      have HF4 : Hid (Fresh w3 w4) := hF4
      have HAw : Hid (Unit → _) := fun (_ : Unit) => HAW.out w4 (HL2.out w4 (HF3.out.trans hF4 (fun _ _ e => e))).1.1
      clear H3 hF4 hG HAW
      go_wp2_with fail
      refine (HAw.out ()).mono ?_
      rintro e w5 ⟨rfl, hF5⟩
      have HF5 : Hid (Fresh w3 w5) := HF4.out.trans hF5 (fun _ _ e => e)
      have H5 : Hid (Unit → _) := fun (_ : Unit) => longs_any _ _ _ _ _ w5 (HR3.out w5 HF5.out).1 (HR3.out w5 HF5.out).2
      have HE : Hid (wE zs.length = 0 ∧ 1 ≤ j ∧ j ≤ 512 ∧ (woL zs).length = j ∧ (∀ i, i < j → (woL zs).getD i 0 = wF zs i) ∨ wE zs.length ≠ 0) := by
        show _ ∨ _
        by_cases e : wE zs.length = 0
        · left
          have hb := wE_zero e
          have hw := woL_ok hb.1 hb.2
          rw [HN.out] at hb
          refine ⟨e, hb.1, hb.2, ?_, fun i hi => ?_⟩
          · rw [hw, wL_len, HN.out]
          · rw [hw]; exact mkL_get (by rw [HN.out]; exact hi)
        · exact .inr e
      clear hF5 HF4 HAw
      obtain ⟨bo, bc, rfl, _⟩ := (HR3.out w5 HF5.out).1.shape
      generalize wE zs.length = E at *
      go_wp2_with fail
      refine (H5.out ()).mono ?_
      rintro e w6 ⟨rfl, n6, hw6⟩
      have HF6 : Hid (Fresh w3 w6) := by show Fresh _ _; rw [hw6]; exact HF5.out.drewN n6
      clear hw6 H5 HF5
      rcases HE.out with ⟨hE0, k1, k2, hlen, hget⟩ | hE1
      · subst hE0
        have HFin : Hid (∀ d, Fresh w (w6.drewN d)) := fun d => (HFw.out.trans HF3.out (fun _ _ e => e)).trans (HF6.out.drewN d) (fun _ _ e => e)
        have hA := (HR3.out w6 HF6.out).1
        have hSc := (HL2.out w6 (HF3.out.trans HF6.out (fun _ _ e => e))).1.2
        rw [hlen] at hA ⊢
        obtain ⟨_, _, _, hca⟩ := hA.cells
        obtain ⟨_, _, _, hcs⟩ := hSc.cells
        obtain ⟨ab, aoff, rfl, _, _, ha⟩ := hca (by omega)
        obtain ⟨sb, soff, rfl, _, _, hs⟩ := hcs (by omega)
        have HCA : Hid (∀ i, i < j → w6.cell? ⟨ab, aoff + i, none⟩ = some (zV (wF zs i))) := fun i hi => by rw [← hget i hi]; exact ha i hi
        have HCS : Hid (∀ i, i < j → w6.cell? ⟨sb, soff + i, none⟩ = some (zV (zs.getD i 0))) := hs
        have HMo : Hid (∀ i k, zs.getD k 0 < zs.getD i 0 → wF zs k ≤ wF zs i) := fun i k h => wt_mono (by omega)
        have HBd : Hid (∀ i, 0 ≤ wF zs i ∧ wF zs i ≤ 1073741824) := fun i => wt_bound _ _
        clear hA hSc hca hcs ha hs hget hlen HE HR3 HL2 HSh HF3 HF6 HFw HRL HN HC1
        go_wp2
        go_loopw [13] (fun iv wr => ∃ i d : Nat, i ≤ j ∧ iv = zV i ∧ wr = w6.drewN d) (fun iv _ => j - (RowKit.intOf iv).toNat)
        case atStart => exact ⟨0, 0, Nat.zero_le _, rfl, rfl⟩
        case round =>
          obtain ⟨i, d, hi, rfl, rfl⟩ := hrel
          by_cases hlt2 : i < j
          · have hlt2' : (i : Int) < (j : Int) := by omega
            have ga := HCA.out i hlt2
            have gs := HCS.out i hlt2
            obtain ⟨a0, a1⟩ := HBd.out i
            have HMi : Hid (∀ k, zs.getD k 0 < zs.getD i 0 → wF zs k ≤ wF zs i) := HMo.out i
            clear HMo HBd
            generalize zs.getD i 0 = x at *
            generalize wF zs i = a at *
            go_wp2
            go_loopw [14] (fun kv wr => ∃ k d : Nat, k ≤ j ∧ kv = zV k ∧ wr = w6.drewN d) (fun kv _ => j - (RowKit.intOf kv).toNat)
            case atStart => exact ⟨0, d, Nat.zero_le _, rfl, rfl⟩
            case round =>
              obtain ⟨k, d2, hk, rfl, rfl⟩ := hrel
              by_cases hlt3 : k < j
              · have hlt3' : (k : Int) < (j : Int) := by omega
                have gb := HCA.out k hlt3
                have gt := HCS.out k hlt3
                have hmi := HMi.out k
                clear HCA HCS HMi
                generalize zs.getD k 0 = y at *
                generalize wF zs k = b at *
                have q0 : decide (a < 0) = false := decide_eq_false (by omega)
                have q1 : decide (1073741824 < a) = false := decide_eq_false (by omega)
                by_cases hxy : y < x
                · have q2 : decide (y < x) = true := decide_eq_true hxy
                  have q3 : decide (a < b) = false := decide_eq_false (by have := hmi hxy; omega)
                  clear hmi
                  go_wp2_with fail
                  go_quiet (fail)
                  go_wp2
                  go_roundw
                  case rel => exact ⟨k + 1, d2 + nq, hlt3, by go_num, rfl⟩
                  case measure => simp [RowKit.intOf]; omega
                · have q2 : decide (y < x) = false := decide_eq_false hxy
                  clear hmi
                  go_wp2_with fail
                  go_quiet (fail)
                  go_wp2
                  go_roundw
                  case rel => exact ⟨k + 1, d2 + nq, hlt3, by go_num, rfl⟩
                  case measure => simp [RowKit.intOf]; omega
              · obtain rfl : k = j := by omega
                clear HCA HCS HMi ga gs
                go_wp2
                go_roundw
                case rel => exact ⟨i + 1, d2, hlt2, by go_num, rfl⟩
                case measure => simp [RowKit.intOf]; omega
          · obtain rfl : i = j := by omega
            clear HCA HCS HMo HBd
            go_wp2
            go_ret
            exact ⟨rfl, HFin.out d⟩
      · have hE' : (E == 0) = false := by simp [hE1]
        have HFin : Hid (Fresh w w6) := (HFw.out.trans HF3.out (fun _ _ e => e)).trans HF6.out (fun _ _ e => e)
        clear HE HR3 HL2 HSh HF3 HF6 HFw HRL HN HC1
        go_wp2
        go_ret
        exact ⟨rfl, HFin.out⟩

set_option maxRecDepth 100000 in
theorem contract (H : Type) (enc : TypeId × Value → H) (W : World) (base : Nat) (args : Array Value) (ds gs : List (DataW H)) (before : List MemPlace)
    (hval : ∀ (j : Nat) t v, Tryd.f6.params[j]? = some t → args[j]? = some v → Value.okWide Tryd.prog W .any base t v)
    (hW : DataW.Whole enc Tryd.prog Tryd.f6.params.toList Rows.softShiftsSpec.vars false W args.toList ds gs before) 
    (hsz : (DataW.weightsEach Tryd.prog (Tryd.f6.params.toList ++ []) (ds ++ gs)).all (· ≤ reachBytes) = true) (hL : laidMetH Tryd.prog Rows.softShiftsRow.laid W) :
    Calls Tryd.prog 6 args W fun e W' => ∃ v, e = .returned v ∧ Rows.softShiftsSpec.post enc Tryd.prog Tryd.f6 false true false false W args v W' := by
  have hW' := hW
  obtain ⟨p, q, hA0, hV, rfl, hfz, hnd⟩ := hW
  have hA : DataW.TrodAll enc Tryd.prog W 0 (fun _ => true) true Tryd.f6.params.toList args.toList ds p := hA0
  rw [Tryd.params6] at hA hval hsz
  obtain ⟨rfl, rfl⟩ := trodVars_none hV
  obtain ⟨v0, v1, d0, d1, p0, p1, rfl, rfl, rfl, h0, h1⟩ := trodAll_two hA
  obtain ⟨zs, hz⟩ := arg64 (hval 0 22 v0 rfl rfl) h0 hsz (j := 0) rfl rfl
  obtain ⟨x1, rfl, rfl, rfl, w1⟩ := open_int Tryd.underlying2 (hval 1 2 v1 rfl rfl) h1
  refine (walk v0 zs x1 W (bend_of_laid hL) (i64_of w1) hz).mono fun e W' ⟨he, hk⟩ => ?_
  subst he
  exact ⟨_, rfl, post_law rfl (by kernel_rfl) (by kernel_rfl) hW' rfl hk⟩

set_option maxRecDepth 100000 in
theorem laid_met (os : Os) : laidMet Tryd.prog Rows.softShiftsRow.laid ((layIn (World.holding Tryd.prog os ⟨#[], #[], []⟩)).forCall (fun _ _ => 0) ⟨#[], #[.slice none 0 0, .int .i64 0], []⟩).memory :=
  laidMet_of_run' 8 (by kernel_rfl) (by kernel_rfl)
set_option maxRecDepth 100000 in
theorem reads (os : Os) {H : Type} (enc : TypeId × Value → H) : ∃ places, DataW.whole enc Tryd.prog ((layIn (World.holding Tryd.prog os ⟨#[], #[], []⟩)).forCall (fun _ _ => 0) ⟨#[], #[.slice none 0 0, .int .i64 0], []⟩).memory Tryd.f6.params.toList Rows.softShiftsSpec.vars false (#[.slice none 0 0, .int .i64 0] : Array Value).toList 8 = some ([.nil, .lit (.int .i64 0)], [], places) :=
  ⟨[], by kernel_rfl⟩

set_option maxRecDepth 100000 in
theorem lifted (os : Os) (started : os.Started) (H : Type) (enc : TypeId × Value → H) (F : Stop.Interp) :
    ReturnsInHanded {} Tryd.checked os 6 .any ((OpenSpec.ofChange Rows.softShiftsSpec).preRow enc Tryd.prog Tryd.f6 Rows.softShiftsRow.domain false Rows.softShiftsRow.laid) (((OpenSpec.ofChange Rows.softShiftsSpec).at F).post enc Tryd.prog Tryd.f6 false true false false) := by
  obtain ⟨places, hx⟩ := reads os enc
  refine returnsInHanded_of_row (C := Tryd.checked) (s := OpenSpec.ofChange Rows.softShiftsSpec) Tryd.own started (by kernel_rfl) Tryd.func6
    (witness_row_at (enc := enc) (C := Tryd.checked) false (layIn (World.holding Tryd.prog os ⟨#[], #[], []⟩)) #[.slice none 0 0, .int .i64 0] rfl (by kernel_rfl) (by kernel_rfl) (by kernel_rfl)
      (OpenSpec.preRow_of_cond 8 hx (by kernel_rfl) (fun k hk => by cases hk) (by kernel_rfl) (laid_met os))) ?_
  intro W base args ds gs before hval hW _ hc hsz hL _ _
  exact contract H enc W base args ds gs before hval hW hsz hL

theorem said : Rows.SoftShiftsSaid :=
  OpenClaim.holds_of_cond 6 Tryd.f6 rfl rfl rfl rfl rfl rfl rfl ⟨rfl, rfl, rfl, rfl, rfl⟩ rfl rfl rfl rfl rfl (by kernel_rfl) Tryd.func6 (by kernel_rfl)
    (of_decide_eq_true (by kernel_rfl)) (by unfold Func.isWrapper; first | (rw [if_pos (by decide +kernel)]; kernel_rfl) | (rw [if_neg (by decide +kernel)]; exact ⟨rfl, rfl⟩))
    (fun os started H enc _ F => by rw [OpenClaim.pre_eq_preRow]; exact lifted os started H enc F)

theorem plain (f : FuncId) (fn : Func) (hf : Tryd.pinned.checked.prog.funcNamed Rows.softShiftsRow.func = some f) (hfn : Tryd.pinned.checked.prog.funcs[f]? = some fn) :
    false = Tryd.pinned.checked.prog.looks [] ∧ ∀ (j : Nat) t, fn.params[j]? = some t → Tryd.pinned.checked.prog.wantsStandIn t = false := by
  obtain rfl : f = 6 := Option.some.inj ((show Tryd.prog.funcNamed Rows.softShiftsRow.func = some 6 by kernel_rfl).symm.trans hf) |>.symm
  obtain rfl : fn = Tryd.f6 := (Option.some.inj (Tryd.func6.symm.trans hfn)).symm
  refine ⟨by kernel_rfl, fun j t ht => ?_⟩
  have hall : (Tryd.f6.params.toList.all fun u => !Tryd.prog.wantsStandIn u) = true := by kernel_rfl
  exact (show Tryd.prog.wantsStandIn t = false by simpa using List.all_eq_true.1 hall t (Array.mem_toList_iff.2 (Array.mem_of_getElem? ht)))

theorem card : Rows.SoftShiftsCardSaid :=
  Claim7.holds_tied_plain_at .later [] _ _ _ _ said (fun _ h => by cases h) (by kernel_rfl) (fun _ h => by cases h) softShifts_row_tie rfl ⟨rfl, rfl⟩ (by kernel_rfl) rfl plain (by kernel_rfl)

end Go.Proofs.YtohoppnpbgplnaaDoor.SShifts
namespace Go.Proofs.YtohoppnpbgplnaaDoor
theorem softShifts_card : Rows.SoftShiftsCardSaid := SShifts.card
end Go.Proofs.YtohoppnpbgplnaaDoor
