/-
  For all rows of bits and scales the statement SingleAt answers true: awake does, At answers as the document says, and the row stays; its card, tied to the program's text.
-/
import Derived.Test.YtagbjlkpmjbfnacDoorR3
import Derived.Test.YtagbjlkpmjbfnacDoorLaV
namespace Go.Proofs.YtagbjlkpmjbfnacDoor.LAt
open Go.ChangeShapes Go.WideShapes Go.ChangeAt Go.RowKit R3 Ieee

set_option maxHeartbeats 400000 in
theorem isScale_any (s : Int) (w : World) :
    Calls Tryd.prog 27 #[.int .i64 s] w fun e w' => e = .returned (.bool (decide (-64 ≤ s ∧ s ≤ 64))) ∧ w = w' := by
  by_cases h1 : -64 ≤ s
  · by_cases h2 : s ≤ 64
    · rw [decide_eq_true ⟨h1, h2⟩]
      go_enter Tryd.func27, Tryd.ntmps27
      go_wp2
      go_ret
      exact ⟨rfl, rfl⟩
    · rw [decide_eq_false (by omega)]
      go_enter Tryd.func27, Tryd.ntmps27
      go_wp2
      go_ret
      exact ⟨rfl, rfl⟩
  · rw [decide_eq_false (by omega)]
    go_enter Tryd.func27, Tryd.ntmps27
    go_wp2
    go_ret
    exact ⟨rfl, rfl⟩

/-- What At answers: the error, and the row. -/
def AtIs (bs : List Nat) (s e : Int) (zs : List Int) : Prop :=
  (¬ (-64 ≤ s ∧ s ≤ 64) ∧ e = 31 ∧ zs = []) ∨
  ((-64 ≤ s ∧ s ≤ 64) ∧ 2139095040 ≤ gm bs bs.length ∧ e = 30 ∧ zs = []) ∨
  ((-64 ≤ s ∧ s ≤ 64) ∧ gm bs bs.length < 2139095040 ∧ 127 < whl (gm bs bs.length) s ∧ e = 31 ∧ zs = []) ∨
  ((-64 ≤ s ∧ s ≤ 64) ∧ gm bs bs.length < 2139095040 ∧ whl (gm bs bs.length) s ≤ 127 ∧ e = 0 ∧ zs = bs.map (q8 s))
theorem at_unique {bs : List Nat} {s e e' : Int} {zs zs' : List Int} (h : AtIs bs s e zs) (k : AtIs bs s e' zs') : e = e' ∧ zs = zs' := by
  rcases h with ⟨a, rfl, rfl⟩ | ⟨a, a1, rfl, rfl⟩ | ⟨a, a1, a2, rfl, rfl⟩ | ⟨a, a1, a2, rfl, rfl⟩ <;> rcases k with ⟨b, rfl, rfl⟩ | ⟨b, b1, rfl, rfl⟩ | ⟨b, b1, b2, rfl, rfl⟩ | ⟨b, b1, b2, rfl, rfl⟩ <;> first | exact ⟨rfl, rfl⟩ | (exact absurd b a) | (exact absurd a b) | omega
theorem room_of {bs : List Nat} {s : Int} (hg : gm bs bs.length < 2139095040) (h : whl (gm bs bs.length) s ≤ 127) : ∀ b ∈ bs, bE b ≠ 255 ∧ whl b s ≤ 127 := fun b hb => by
  have hl := gm_all hb
  have h1 := fin_of_low (b := b) (by omega)
  refine ⟨h1, Nat.le_trans (nst_mono h1 (low_fin hg).1 s ?_) h⟩
  rw [Nat.mod_eq_of_lt (gm_lt _ _)]
  exact hl
theorem at_range {bs : List Nat} {s e : Int} {zs : List Int} (h : AtIs bs s e zs) : zs.length ≤ bs.length ∧ ∀ z ∈ zs, -128 ≤ z ∧ z ≤ 127 := by
  rcases h with ⟨_, _, rfl⟩ | ⟨_, _, _, rfl⟩ | ⟨_, _, _, _, rfl⟩ | ⟨_, a, a1, _, rfl⟩
  · exact ⟨by simp, by simp⟩
  · exact ⟨by simp, by simp⟩
  · exact ⟨by simp, by simp⟩
  · refine ⟨by simp, fun z hz => ?_⟩
    obtain ⟨b, hb, rfl⟩ := List.mem_map.1 hz
    have := (room_of a a1 b hb).2
    unfold q8 sgnI
    split <;> omega

set_option maxHeartbeats 1000000 in
theorem At_own (p : Nat → Prop) (rv : Value) (bs : List Nat) (s : Int) (w : World) (hS : Sing w) (hr : R32 p w rv bs) :
    Calls Tryd.prog 15 #[rv, .int .i64 s] w fun r w' => ∃ v e zs, AtIs bs s e zs ∧ r = .returned (.tuple #[v, .int .i64 e]) ∧ Fresh w w' ∧
      (v = .slice none 0 0 ∧ zs = [] ∨ w'.ownsRow w.heap.size 61 1 v zs.length (zs.map (Value.int .i8))) := by
  have HI := show Hid _ from fun X => isScale_any s X
  by_cases hs : -64 ≤ s ∧ s ≤ 64
  · rw [decide_eq_true hs] at HI
    have HG := show Hid _ from greatest_any p rv bs w hS hr
    by_cases g0 : 2139095040 ≤ gm bs bs.length
    · rw [if_pos g0] at HG
      have HQ : Hid (AtIs bs s 30 []) := .inr (.inl ⟨hs, g0, rfl, rfl⟩)
      clear g0 hr hs
      go_enter Tryd.func15, Tryd.ntmps15
      go_wp2_with fail
      refine (HI.out _).mono ?_
      rintro r X ⟨rfl, rfl⟩
      go_wp2_with fail
      refine Calls.mono HG.out ?_
      rintro r w1 ⟨rfl, h1⟩
      go_wp2
      go_ret2
      exact ⟨_, _, _, HQ.out, rfl, h1, .inl ⟨rfl, rfl⟩⟩
    · rw [if_neg g0] at HG
      have gl : gm bs bs.length < 2139095040 := by omega
      clear g0
      obtain ⟨hE, hN⟩ := low_fin gl
      have HW : Hid (∀ X, Calls Tryd.prog 29 #[.int .u32 (gm bs bs.length : Nat), .int .i64 s] X fun e w' => e = .returned (.float .f64 (double.nearest false (whl (gm bs bs.length) s) 0)) ∧ X = w') := fun X => by
        have := nearest_any (gm bs bs.length) s X (by omega) hE hs
        unfold nstB at this
        rw [hN] at this
        exact this
      have hgt : (FloatKind.f64.format.order (double.nearest false (whl (gm bs bs.length) s) 0) 4638637247447433216 == some .gt) = decide (127 < whl (gm bs bs.length) s) := gtr_127 (mt (gm bs bs.length)) (ex (gm bs bs.length) + s) (mt_lt _) (by have := (ex_bounds (gm bs bs.length)).2; omega)
      by_cases g2 : 127 < whl (gm bs bs.length) s
      · rw [decide_eq_true g2] at hgt
        have HQ : Hid (AtIs bs s 31 []) := .inr (.inr (.inl ⟨hs, gl, g2, rfl, rfl⟩))
        clear gl hr hs hE hN g2
        generalize double.nearest false (whl (gm bs bs.length) s) 0 = D at *
        generalize gm bs bs.length = G at *
        go_enter Tryd.func15, Tryd.ntmps15
        go_wp2_with fail
        refine (HI.out _).mono ?_
        rintro r X ⟨rfl, rfl⟩
        go_wp2_with fail
        refine Calls.mono HG.out ?_
        rintro r w1 ⟨rfl, h1⟩
        go_wp2_with fail
        refine (HW.out _).mono ?_
        rintro r X ⟨rfl, rfl⟩
        go_wp2
        go_ret2
        exact ⟨_, _, _, HQ.out, rfl, h1, .inl ⟨rfl, rfl⟩⟩
      · rw [decide_eq_false g2] at hgt
        have HQ : Hid (AtIs bs s 0 (bs.map (q8 s))) := .inr (.inr (.inr ⟨hs, gl, by omega, rfl, rfl⟩))
        have HRow : Hid (∀ w1 : World, Fresh w w1 → Calls Tryd.prog 30 #[rv, .int .i64 s] w1 fun e w' => ∃ g, e = .returned (.slice (some ⟨g, 0, none⟩) bs.length bs.length) ∧ w1.heap.size ≤ g ∧ w'.ownsRow w1.heap.size 61 1 (.slice (some ⟨g, 0, none⟩) bs.length bs.length) bs.length (q8s s bs) ∧ Fresh w1 w') := fun w1 h1 => row_own p rv bs s w1 (hr.kept h1 (fun _ _ e => e)) hs (room_of gl (by omega))
        clear gl hr hs hE hN g2
        generalize double.nearest false (whl (gm bs bs.length) s) 0 = D at *
        generalize gm bs bs.length = G at *
        go_enter Tryd.func15, Tryd.ntmps15
        go_wp2_with fail
        refine (HI.out _).mono ?_
        rintro r X ⟨rfl, rfl⟩
        go_wp2_with fail
        refine Calls.mono HG.out ?_
        rintro r w1 ⟨rfl, h1⟩
        go_wp2_with fail
        refine (HW.out _).mono ?_
        rintro r X ⟨rfl, rfl⟩
        go_wp2_with fail
        refine (HRow.out _ h1).mono ?_
        rintro r w3 ⟨g, rfl, hg, ho, h3⟩
        go_wp2
        go_ret2
        refine ⟨_, _, _, HQ.out, rfl, h1.trans h3 (fun _ _ e => e), .inr ?_⟩
        rw [List.length_map, ← q8s_map]
        exact own_low ho h1.size
  · rw [decide_eq_false hs] at HI
    have HQ : Hid (AtIs bs s 31 []) := .inl ⟨hs, rfl, rfl⟩
    clear hs hr
    go_enter Tryd.func15, Tryd.ntmps15
    go_wp2_with fail
    refine (HI.out _).mono ?_
    rintro r X ⟨rfl, rfl⟩
    go_wp2
    go_ret2
    exact ⟨_, _, _, HQ.out, rfl, Kept.refl _ _, .inl ⟨rfl, rfl⟩⟩

set_option maxHeartbeats 1000000 in
set_option maxRecDepth 100000 in
theorem refAt_own (p : Nat → Prop) (rv : Value) (bs : List Nat) (s : Int) (w : World) (hr : R32 p w rv bs) :
    Calls Tryd.prog 16 #[rv, .int .i64 s] w fun r w' => ∃ v e zs, AtIs bs s e zs ∧ r = .returned (.tuple #[v, .int .i64 e]) ∧ Fresh w w' ∧
      w'.ownsRow w.heap.size 61 1 v zs.length (zs.map (Value.int .i8)) := by
  have HO : Hid (∀ W : World, Fresh w W → (W.alloc (.cells #[] 61)).ownsRow w.heap.size 61 1 (.slice (some ⟨W.heap.size, 0, none⟩) 0 0) 0 []) := fun W h => own_low (own8_empty W) h.size
  have hr0 := hr
  obtain ⟨ao, cap, rfl, hl, hc, hz, _⟩ := hr
  have HRR := show Hid _ from hr0
  clear hr0
  by_cases hs : -64 ≤ s ∧ s ≤ 64
  · obtain ⟨s1, s2⟩ := hs
    go_enter Tryd.func16, Tryd.ntmps16
    go_wp2
    go_loopw [6] (fun i wr => ∃ j : Nat, j ≤ bs.length ∧ i = .int .i64 j ∧ (∀ b ∈ bs.take j, bE b ≠ 255) ∧ Fresh w wr) (fun i _ => bs.length - (intOf i).toNat)
    case atStart => exact ⟨0, by omega, rfl, by simp, Kept.refl _ _⟩
    case round =>
      obtain ⟨j, hj, rfl, hfin, hfr⟩ := hrel
      by_cases hlt : j < bs.length
      · obtain ⟨b, off, rfl, _, hb, hcell⟩ := hc (fun e => by rw [e] at hlt; simp at hlt)
        have g1 : wr.cell? ⟨b, off + j, none⟩ = some (.int .u32 (bs.getD j 0 : Nat)) := (hfr.cell (p := ⟨b, off + j, none⟩) hb (fun e => e)).trans (hcell j hlt)
        have hmem : bs.getD j 0 ∈ bs := by rw [List.getD_eq_getElem?_getD, List.getElem?_eq_getElem hlt]; exact List.getElem_mem hlt
        have hz1 := hz _ hmem
        by_cases hE : bE (bs.getD j 0) = 255
        · have HQ : Hid (AtIs bs s 30 []) := .inr (.inl ⟨⟨s1, s2⟩, gm_inf hmem hE, rfl, rfl⟩)
          have HRaw : Hid (∃ (K : Int) (S : Bool), (K = 1 ∨ K = 2) ∧ ∀ X, Calls Tryd.prog 23 #[.int .u32 (bs.getD j 0 : Nat)] X fun e w' => e = .returned (.tuple #[.int .i64 K, .bool S, .int .i64 0, .int .i64 0]) ∧ X = w') := by
            by_cases hF : bF (bs.getD j 0) = 0
            · exact ⟨1, _, .inl rfl, fun X => (raw_any _ X hz1).mono fun _ _ h => ⟨by rw [← rawV_inf hE hF]; exact h.1, h.2.symm⟩⟩
            · exact ⟨2, _, .inr rfl, fun X => (raw_any _ X hz1).mono fun _ _ h => ⟨by rw [← rawV_none hE hF]; exact h.1, h.2.symm⟩⟩
          generalize bs.getD j 0 = z at *
          obtain ⟨K, S, hK, hraw⟩ := HRaw.out
          have HR := show Hid _ from hraw
          have hK0 : (K != 0) = true := by rcases hK with rfl | rfl <;> rfl
          clear hraw HRaw hcell hc hz hmem hE hfin hK
          go_wp2_with fail
          refine (HR.out _).mono ?_
          rintro r X ⟨rfl, rfl⟩
          go_wp2
          go_ret2
          exact ⟨_, _, _, HQ.out, rfl, hfr.alloc _, HO.out _ hfr⟩
        · have HRaw := show Hid _ from fun X => raw_fin (bs.getD j 0) hz1 hE X
          have HF : Hid (∀ b ∈ bs.take (j + 1), bE b ≠ 255) := fun b hb => by
            rw [List.take_succ_eq_append_getElem hlt, List.mem_append] at hb
            rcases hb with hb | hb
            · exact hfin b hb
            · rw [List.getD_eq_getElem?_getD, List.getElem?_eq_getElem hlt] at hE
              simp only [List.mem_singleton] at hb
              rw [hb]
              exact hE
          generalize mt (bs.getD j 0) = M at *
          generalize ex (bs.getD j 0) = E at *
          generalize bN (bs.getD j 0) = N at *
          generalize bs.getD j 0 = z at *
          clear hcell hc hz hmem hE hfin
          go_wp2_with fail
          refine (HRaw.out _).mono ?_
          rintro r X ⟨rfl, rfl⟩
          go_wp2
          go_roundw
          case rel => exact ⟨j + 1, by omega, by go_num, HF.out, hfr⟩
          case measure => simp [intOf]; omega
      · obtain rfl : j = bs.length := by omega
        rw [List.take_length] at hfin
        have hg := gm_fin bs hfin
        have HA := show Hid _ from refat_any p _ bs s wr (R32.kept HRR.out hfr (fun _ _ e => e)) ⟨s1, s2⟩ hfin
        have HI := show Hid _ from room_iff s bs hfin hg
        have HG := show Hid _ from hg
        clear hc hz hfin hg
        go_wp2_with fail
        refine Calls.mono HA.out ?_
        rintro r w2 ⟨h2, v, ⟨hR, rfl, ho⟩ | ⟨hR, rfl⟩⟩
        · have HQ : Hid (AtIs bs s 0 (bs.map (q8 s))) := .inr (.inr (.inr ⟨⟨s1, s2⟩, HG.out, HI.out.1 hR, rfl, rfl⟩))
          have HO2 : Hid (w2.ownsRow w.heap.size 61 1 v (bs.map (q8 s)).length ((bs.map (q8 s)).map (Value.int .i8))) := by
            show w2.ownsRow _ _ _ _ _ _
            rw [List.length_map, ← q8s_map]; exact own_low ho hfr.size
          have hfr2 : Fresh w w2 := hfr.trans h2 (fun _ _ e => e)
          clear ho hR
          go_wp2
          go_ret2
          exact ⟨_, _, _, HQ.out, rfl, hfr2, HO2.out⟩
        · have HQ : Hid (AtIs bs s 31 []) := .inr (.inr (.inl ⟨⟨s1, s2⟩, HG.out, Nat.lt_of_not_le fun h => hR (HI.out.2 h), rfl, rfl⟩))
          have hfr2 : Fresh w w2 := hfr.trans h2 (fun _ _ e => e)
          clear hR
          go_wp2
          go_ret2
          exact ⟨_, _, _, HQ.out, rfl, hfr2.alloc _, HO.out _ hfr2⟩
  · have HQ : Hid (AtIs bs s 31 []) := .inl ⟨hs, rfl, rfl⟩
    have HD : (s < -64) ∨ (-64 ≤ s ∧ 64 < s) := by omega
    clear hs hc hz
    rcases HD with h | ⟨h, h2⟩
    all_goals
      go_enter Tryd.func16, Tryd.ntmps16
      go_wp2
      go_ret2
      exact ⟨_, _, _, HQ.out, rfl, (Kept.refl _ _).alloc _, HO.out _ (Kept.refl _ _)⟩

set_option maxHeartbeats 1000000 in
set_option maxRecDepth 100000 in
theorem walk (rv : Value) (bs : List Nat) (s : Int) (w : World) (hS : Sing w) (hr : R32 (fun b => b < w.heap.size) w rv bs) :
    Calls Tryd.prog 5 #[rv, .int .i64 s] w fun r w' => r = .returned (.bool true) ∧ Fresh w w' := by
  have HS := show Hid _ from hS
  have hzz := hr
  obtain ⟨ao, cap, rfl, hl, _, hz, _⟩ := hzz
  obtain ⟨tv, W1, hrun, hown1, hgrow⟩ := twin32 29 _ w.heap.size _ (own32_empty w) (by simp) _ bs _ (hr.kept ((Kept.refl (fun _ => False) _).alloc _) (fun _ _ e => e))
  have hkW : Fresh w W1 := ((Kept.refl _ _).alloc _).grown hgrow (fun k hk e => by simp [Value.ownBlock] at e; omega)
  have htw := r32_of_own hown1 hl hz
  have HR := show Hid _ from hr
  have HT := show Hid _ from htw
  have HZ := show Hid _ from hz
  clear hown1 hgrow htw hr hz hS
  go_enter Tryd.func5, Tryd.ntmps5
  go_wp2_with (at_builtin; refine Lib.wpList_append_run _ rfl _ _ _ _ rfl _ _ rfl rfl _ _ hrun ?_)
  clear hrun
  refine (At_own _ _ _ _ _ (Sing.fresh HS.out hkW) (R32.kept HR.out hkW (fun _ _ e => e))).mono ?_
  rintro r w2 ⟨v, e, zs, hq, rfl, h2, hv⟩
  have hfr2 : Fresh w w2 := hkW.trans h2 (fun _ _ e => e)
  have hqr := at_range hq
  have hrow : RowIs (fun _ => True) w2 v zs := by
    rcases hv with ⟨rfl, rfl⟩ | ho
    · exact ⟨none, 0, rfl, by simp, fun e => absurd rfl e, by simp, fun _ => rfl⟩
    · exact RowIs.mono (rowIs_of_own ho (by omega) hqr.2) (fun _ _ => trivial)
  have HRow := show Hid _ from hrow
  have HQ := show Hid _ from hq
  have HQR := show Hid _ from hqr
  clear hv hrow hq hqr
  go_wp2_with fail
  refine (refAt_own _ _ _ _ _ (R32.kept HT.out h2 (fun _ _ e => e))).mono ?_
  rintro r w3 ⟨v', e', zs', hq', rfl, h3, ho'⟩
  obtain ⟨rfl, rfl⟩ := at_unique HQ.out hq'
  have hfr3 : Fresh w w3 := hfr2.trans h3 (fun _ _ e => e)
  have HRow' : Hid (RowIs (fun _ => True) w3 v' zs) := RowIs.mono (rowIs_of_own ho' (by have := HQR.out.1; omega) HQR.out.2) (fun _ _ => trivial)
  have HRow3 : Hid (RowIs (fun _ => True) w3 v zs) := RowIs.kept HRow.out h3 (fun _ _ e => e)
  clear hq' ho'
  go_wp2_with fail
  refine (awake_any _ (Sing.fresh HS.out hfr3)).mono ?_
  rintro r w4 ⟨rfl, h4⟩
  have hfr4 : Fresh w w4 := hfr3.trans h4 (fun _ _ e => e)
  go_wp2_with fail
  refine (rows_any _ _ _ _ _ _ _ (RowIs.kept HRow3.out h4 (fun _ _ e => e)) (RowIs.kept HRow'.out h4 (fun _ _ e => e))).mono ?_
  rintro r w5 ⟨rfl, n, h5⟩
  have hd : decide (zs = zs) = true := by simp
  rw [hd]
  have h5' : Fresh w4 w5 := by rw [h5]; exact ⟨rfl, rfl, rfl, Nat.le_refl _, fun _ _ _ => rfl⟩
  clear h5
  have hfr5 : Fresh w w5 := hfr4.trans h5' (fun _ _ e => e)
  have h15 : Fresh W1 w5 := ((h2.trans h3 (fun _ _ e => e)).trans h4 (fun _ _ e => e)).trans h5' (fun _ _ e => e)
  go_wp2_with fail
  refine (bits_any _ _ _ _ _ _ _ (R32.kept HR.out hfr5 (fun _ _ e => e)) (R32.kept HT.out h15 (fun _ _ e => e))).mono ?_
  rintro r w6 ⟨rfl, n6, h6⟩
  have hfr6 : Fresh w w6 := by rw [h6]; exact ⟨hfr5.os, hfr5.tape, hfr5.output, hfr5.size, hfr5.block⟩
  clear h6
  go_wp2
  go_ret
  exact ⟨by simp, hfr6⟩

theorem contract (H : Type) (enc : TypeId × Value → H) (W : World) (base : Nat) (args : Array Value) (ds gs : List (DataW H)) (before : List MemPlace)
    (hval : ∀ (j : Nat) t v, Tryd.f5.params[j]? = some t → args[j]? = some v → Value.okWide Tryd.prog W .any base t v)
    (hW : DataW.Whole enc Tryd.prog Tryd.f5.params.toList Rows.singleAtSpec.vars false W args.toList ds gs before) 
    (hsz : (DataW.weightsEach Tryd.prog (Tryd.f5.params.toList ++ []) (ds ++ gs)).all (· ≤ reachBytes) = true) (hL : laidMetH Tryd.prog Rows.singleAtRow.laid W) :
    Calls Tryd.prog 5 args W fun e W' => ∃ v, e = .returned v ∧ Rows.singleAtSpec.post enc Tryd.prog Tryd.f5 false true false false W args v W' := by
  have hW' := hW
  obtain ⟨p, q, hA0, hV, rfl, hfz, hnd⟩ := hW
  have hA : DataW.TrodAll enc Tryd.prog W 0 (fun _ => true) true Tryd.f5.params.toList args.toList ds p := hA0
  rw [Tryd.params5] at hA hval hsz
  obtain ⟨rfl, rfl⟩ := trodVars_none hV
  obtain ⟨v0, v1, d0, d1, p0, p1, rfl, rfl, rfl, h0, h1⟩ := trodAll_two hA
  obtain ⟨ao, ln, cap, rfl⟩ := okWide_slice Tryd.underlying29 (hval 0 29 v0 rfl rfl)
  obtain ⟨x1, rfl, rfl, rfl, w1⟩ := open_int Tryd.underlying3 (hval 1 3 v1 rfl rfl) h1
  obtain ⟨fuel, hf⟩ := h0
  obtain ⟨bs, hr⟩ := r32_of (x := (d0, _)) hf (fun es sp e => by
    have e' : d0 = .slice es sp := e
    subst e'
    have := sized_slice hsz (j := 0) (t := 29) (e := 22) rfl rfl Tryd.underlying29
    rw [Tryd.b32] at this
    simp only [reachBytes] at this
    omega)
  refine (walk _ bs x1 W (sing_of_laid hL (by simp [Rows.singleAtRow])) hr).mono fun e W' ⟨he, hk⟩ => ?_
  subst he
  exact ⟨_, rfl, post_law rfl (by kernel_rfl) (by kernel_rfl) hW' rfl hk⟩

theorem laid_met (os : Os) : laidMet Tryd.prog Rows.singleAtRow.laid ((layIn (World.holding Tryd.prog os ⟨#[], #[], []⟩)).forCall (fun _ _ => 0) ⟨#[], #[.slice none 0 0, .int .i64 0], []⟩).memory :=
  laidMet_of_run' 8 (by kernel_rfl) (by kernel_rfl)
theorem reads (os : Os) {H : Type} (enc : TypeId × Value → H) : ∃ places, DataW.whole enc Tryd.prog ((layIn (World.holding Tryd.prog os ⟨#[], #[], []⟩)).forCall (fun _ _ => 0) ⟨#[], #[.slice none 0 0, .int .i64 0], []⟩).memory Tryd.f5.params.toList Rows.singleAtSpec.vars false (#[.slice none 0 0, .int .i64 0] : Array Value).toList 8 = some ([.nil, .lit (.int .i64 0)], [], places) :=
  ⟨[], by kernel_rfl⟩

set_option maxRecDepth 100000 in
theorem lifted (os : Os) (started : os.Started) (H : Type) (enc : TypeId × Value → H) (F : Stop.Interp) :
    ReturnsInHanded {} Tryd.checked os 5 .any ((OpenSpec.ofChange Rows.singleAtSpec).preRow enc Tryd.prog Tryd.f5 Rows.singleAtRow.domain false Rows.singleAtRow.laid) (((OpenSpec.ofChange Rows.singleAtSpec).at F).post enc Tryd.prog Tryd.f5 false true false false) := by
  obtain ⟨places, hx⟩ := reads os enc
  refine returnsInHanded_of_row (C := Tryd.checked) (s := OpenSpec.ofChange Rows.singleAtSpec) Tryd.own started (by kernel_rfl) Tryd.func5
    (witness_row_at (enc := enc) (C := Tryd.checked) false (layIn (World.holding Tryd.prog os ⟨#[], #[], []⟩)) #[.slice none 0 0, .int .i64 0] rfl (by kernel_rfl) (by kernel_rfl) (by kernel_rfl)
      (OpenSpec.preRow_of_cond 8 hx (by kernel_rfl) (fun k hk => by cases hk) (by kernel_rfl) (laid_met os))) ?_
  intro W base args ds gs before hval hW _ hc hsz hL _ _
  exact contract H enc W base args ds gs before hval hW hsz hL

theorem said : Rows.SingleAtSaid :=
  OpenClaim.holds_of_cond 5 Tryd.f5 rfl rfl rfl rfl rfl rfl rfl ⟨rfl, rfl, rfl, rfl, rfl⟩ rfl rfl rfl rfl rfl (by kernel_rfl) Tryd.func5 (by kernel_rfl)
    (of_decide_eq_true (by kernel_rfl)) (by unfold Func.isWrapper; first | (rw [if_pos (by decide +kernel)]; kernel_rfl) | (rw [if_neg (by decide +kernel)]; exact ⟨rfl, rfl⟩))
    (fun os started H enc _ F => by rw [OpenClaim.pre_eq_preRow]; exact lifted os started H enc F)

theorem plain (f : FuncId) (fn : Func) (hf : Tryd.pinned.checked.prog.funcNamed Rows.singleAtRow.func = some f) (hfn : Tryd.pinned.checked.prog.funcs[f]? = some fn) :
    false = Tryd.pinned.checked.prog.looks [] ∧ ∀ (j : Nat) t, fn.params[j]? = some t → Tryd.pinned.checked.prog.wantsStandIn t = false := by
  obtain rfl : f = 5 := Option.some.inj ((show Tryd.prog.funcNamed Rows.singleAtRow.func = some 5 by kernel_rfl).symm.trans hf) |>.symm
  obtain rfl : fn = Tryd.f5 := (Option.some.inj (Tryd.func5.symm.trans hfn)).symm
  refine ⟨by kernel_rfl, fun j t ht => ?_⟩
  have hall : (Tryd.f5.params.toList.all fun u => !Tryd.prog.wantsStandIn u) = true := by kernel_rfl
  exact (show Tryd.prog.wantsStandIn t = false by simpa using List.all_eq_true.1 hall t (Array.mem_toList_iff.2 (Array.mem_of_getElem? ht)))

theorem card : Rows.SingleAtCardSaid :=
  Claim7.holds_tied_plain_at .later [] _ _ _ _ said (fun _ h => by cases h) (by kernel_rfl) (fun _ h => by cases h) singleAt_row_tie rfl ⟨rfl, rfl⟩ (by kernel_rfl) rfl plain (by kernel_rfl)

end Go.Proofs.YtagbjlkpmjbfnacDoor.LAt
namespace Go.Proofs.YtagbjlkpmjbfnacDoor
theorem singleAt_card : Rows.SingleAtCardSaid := LAt.card
end Go.Proofs.YtagbjlkpmjbfnacDoor
