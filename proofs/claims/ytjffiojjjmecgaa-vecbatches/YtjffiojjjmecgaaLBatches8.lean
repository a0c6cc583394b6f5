/-
  For every two matrices the statement VecBatches answers true: awake does; Batch is Times, row by row; a matrix below another one answers behind it; no answer is greater than 128 times Sizes.
-/
import Derived.Test.YtjffiojjjmecgaaVcw
import Derived.Deep.RegionHeldLaw
namespace Go.Proofs.Ytjffiojjjmecgaa.Batches8
open Go.ChangeShapes Go.WideShapes Go.ChangeAt Go.RowKit Go.Lib Go.Maps

theorem wpList_append_guard {P : Program} (w : World) {ops : Array Oper} {rest : List Oper} {o : Oper} {a : Act} {Q : Exit → Act → World → Prop} (hw : Region.wanted o (yielded ops a.tmps) = true) (s x : Operand) (t tn : TypeId)
    (ho : o.op = .call { callee := .builtin .append, args := #[s, x], argTypes := #[t, tn] }) (vs vx : Value) (hs : a.eval s = vs) (hx : a.eval x = vx)
    (v' : Value) (w' : World) (hr : (Builtin.append_ #[t, tn] o.type #[vs, vx]).run P w = .ok v' w') (h : wpList P ops Q rest (a.put o.dst v') w') : wpList P ops Q (o :: rest) a w := by
  unfold wpList
  rw [if_pos hw]
  exact .inl (Lib.wp_append_run w s x t tn ho vs vx hs hx v' w' hr h)

set_option maxHeartbeats 40000000 in
set_option maxRecDepth 100000 in
theorem walk (wv xv nv nx : Value) (zs ns : List Int) (X : List (List Int)) (c nc : Int) (w : World) (hw : Rk .i8 (fun b => b < w.heap.size) w wv zs) (hx : LL .i8 (fun b => b < w.heap.size) w xv X) (hn : Rk .i8 (fun b => b < w.heap.size) w nv ns) (hc : I64 c) :
    Calls Try.prog 8 #[.agg #[wv, zV c, xv], .agg #[nv, zV nc, nx]] w fun e w' => e = .returned (.bool true) ∧ Fresh w w' := by
  have HAW : Hid (∀ W : World, _) := fun (W : World) => awake_any W
  obtain ⟨W0, hW0⟩ : ∃ W0, W0 = (w.alloc (.cells #[wv, zV c, xv] 34)).alloc (.cells #[nv, zV nc, nx] 34) := ⟨_, rfl⟩
  have HF0 : Hid (Fresh w W0) := by show Fresh _ _; rw [hW0]; exact ((Kept.refl _ w).alloc _).alloc _
  have p1 : W0.heap[w.heap.size]? = some (.cells #[wv, zV c, xv] 34 (0, 0)) := by rw [hW0]; exact (Below.heap_alloc _ _ _ (by simp)).trans (heap_alloc_new w _)
  have p2 : W0.heap[w.heap.size + 1]? = some (.cells #[nv, zV nc, nx] 34 (0, 0)) := by
    rw [hW0]
    have := heap_alloc_new (w.alloc (.cells #[wv, zV c, xv] 34)) (.cells #[nv, zV nc, nx] 34)
    rwa [World.size_alloc] at this
  have HP : Hid (∀ W, Fresh W0 W → W.cell? ⟨w.heap.size, 0, none⟩ = some wv ∧ W.cell? ⟨w.heap.size, 1, none⟩ = some (zV c) ∧ W.cell? ⟨w.heap.size, 2, none⟩ = some xv ∧ W.cell? ⟨w.heap.size + 1, 0, none⟩ = some nv ∧ w.heap.size + 1 < W.heap.size) := fun W hF => by
    have q1 := hF.at p1 (fun e => e)
    have q2 := hF.at p2 (fun e => e)
    exact ⟨by rw [Lib.cell_of_heap q1]; rfl, by rw [Lib.cell_of_heap q1]; rfl, by rw [Lib.cell_of_heap q1]; rfl, by rw [Lib.cell_of_heap q2]; rfl, lt_of_heap q2⟩
  have HR : Hid (∀ W, Fresh W0 W → Rk .i8 (fun b => b < w.heap.size) W wv zs ∧ Rk .i8 (fun b => b < w.heap.size) W nv ns) := fun W hF => by
    have := HF0.out.trans hF (fun _ _ e => e)
    exact ⟨hw.fresh this, hn.fresh this⟩
  have HI : Hid (I64 c ∧ (∀ z ∈ zs, C8 z) ∧ (∀ z ∈ ns, C8 z)) := ⟨hc, hw.all, hn.all⟩
  have hmanyw := hw.many
  have hmanyn := hn.many
  have hmany := hx.many
  obtain ⟨wa, wcp, hwv, _⟩ := hw.shape
  obtain ⟨na, ncp, hnv, _⟩ := hn.shape
  obtain ⟨xa, xcp, hxv, _⟩ := hx.shape
  have HC : Hid (0 < X.length → ∃ b off, xa = some ⟨b, off, none⟩ ∧ ∀ W, Fresh W0 W → ∀ i, i < X.length → ∃ ua uc, W.cell? ⟨b, off + i, none⟩ = some (.slice ua (X.getD i []).length uc) ∧ Rk .i8 (fun b => b < w.heap.size) W (.slice ua (X.getD i []).length uc) (X.getD i [])) := fun hp => by
    rw [hxv] at hx
    obtain ⟨_, _, hcx⟩ := hx.cells
    obtain ⟨b, off, e, _, hb, hcell⟩ := hcx hp
    refine ⟨b, off, e, fun W hF i hi => ?_⟩
    obtain ⟨u, h1, h2⟩ := hcell i hi
    obtain ⟨ua, uc, e2, _⟩ := h2.shape
    subst e2
    have hFw := HF0.out.trans hF (fun _ _ e => e)
    exact ⟨ua, uc, (hFw.cell (p := ⟨b, off + i, none⟩) hb (fun e => e)).trans h1, h2.fresh hFw⟩
  subst hwv
  subst hnv
  subst hxv
  obtain ⟨n, hnn⟩ : ∃ n, X.length = n := ⟨_, rfl⟩
  rw [hnn] at HC HP hmany hW0 ⊢
  obtain ⟨lz, hlz⟩ : ∃ lz, zs.length = lz := ⟨_, rfl⟩
  obtain ⟨ln, hln⟩ : ∃ ln, ns.length = ln := ⟨_, rfl⟩
  have HLn : Hid (zs.length = lz ∧ ns.length = ln) := ⟨hlz, hln⟩
  rw [hlz, hln] at HP hW0 ⊢
  rw [hlz, hln] at HR
  rw [hlz] at hmanyw
  rw [hln] at hmanyn
  clear hw p1 p2 hc hx hn hnn hlz hln
  go_enter Try.func8, Try.ntmps8
  go_wp2_with fail
  rw [← hW0]
  refine (HAW.out _).mono ?_
  rintro e w1 ⟨rfl, hF1⟩
  have HF1 : Hid (Fresh W0 w1) := hF1
  obtain ⟨c1, c2, c3, c4, _⟩ := HP.out w1 hF1
  clear hW0 HAW hF1
  go_wp2
  clear c1 c2 c3 c4
  go_loopw [22] (fun iv wr => ∃ j : Nat, j ≤ n ∧ iv = zV j ∧ Hid (Fresh W0 wr)) (fun iv _ => n - (RowKit.intOf iv).toNat)
  case atStart => exact ⟨0, Nat.zero_le _, rfl, HF1.out⟩
  case round =>
    obtain ⟨j, hj, rfl, HFr⟩ := hrel
    clear HF1
    by_cases hlt : j < n
    · obtain ⟨b, off, rfl, hcell⟩ := HC.out (by omega)
      obtain ⟨ua, uc, g1, hr⟩ := hcell wr HFr.out j hlt
      have hlt' : (j : Int) < (n : Int) := by omega
      have HX8 : Hid (∀ z ∈ X.getD j [], C8 z) := hr.all
      have HRx : Hid (∀ W, Fresh wr W → Rk .i8 (fun b => b < w.heap.size) W (.slice ua (X.getD j []).length uc) (X.getD j [])) := fun W hF => hr.fresh hF
      clear hcell hr
      generalize X.getD j [] = x at *
      obtain ⟨lx, hlx⟩ : ∃ lx, x.length = lx := ⟨_, rfl⟩
      have HLx : Hid (x.length = lx) := hlx
      rw [hlx] at g1 HRx
      clear hlx
      have HIt : Hid ((tL zs c x).length * kb .i64 ≤ 140737488351232 ∧ ∀ z ∈ tL zs c x, Fit .i64 z) := ⟨by have := tL_len zs x c; simp [kb]; omega, tL_i64 c HI.out.2.1 HX8.out⟩
      obtain ⟨c1, c2, c3, c4, _⟩ := HP.out wr HFr.out
      have H1 : Hid (Unit → _) := fun (_ : Unit) => Times_any _ _ _ _ zs x c wr (HR.out wr HFr.out).1 (HRx.out wr (Kept.refl _ _)) HI.out.1
      go_wp2_with fail
      refine (H1.out ()).mono ?_
      rintro e w2 hG
      obtain ⟨v2, rfl, hR2, hF2⟩ := hG.row HIt.out.1 HIt.out.2
      obtain ⟨ta, tc, hv2, _⟩ := hR2.shape
      subst hv2
      have HF2 : Hid (Fresh wr w2) := hF2
      have HR2 : Hid (∀ W, Fresh w2 W → Rk .i64 (fun _ => True) W (.slice ta (tL zs c x).length tc) (tL zs c x)) := fun W hF => (hR2.fresh hF).mono (fun _ _ => trivial)
      clear c1 c2 c3 c4 g1 H1 hG hR2 hF2
      obtain ⟨c1, c2, c3, c4, hbl⟩ := HP.out w2 (HFr.out.trans HF2.out (fun _ _ e => e))
      obtain ⟨w3, hw3⟩ : ∃ w3, w3 = w2.alloc (.cells #[.slice ua lx uc, .slice ua lx uc] 22) := ⟨_, rfl⟩
      have hF3 : Fresh w2 w3 := by rw [hw3]; exact (Kept.refl _ w2).alloc _
      have hL3 := ll_two (HRx.out w2 HF2.out) 22
      rw [← hw3] at hL3
      have H2 : Hid (Unit → _) := fun (_ : Unit) => Batch_any _ _ _ _ zs [x, x] c w3 (HR.out w3 ((HFr.out.trans HF2.out (fun _ _ e => e)).trans hF3 (fun _ _ e => e))).1 hL3 HI.out.1
      rw [(twice zs c x).1] at H2
      have HF3 : Hid (Fresh w2 w3) := hF3
      clear hF3 hL3
      go_wp2_with fail
      rw [← hw3]
      refine (H2.out ()).mono ?_
      rintro e w4 ⟨v4, rfl, hO4, hF4⟩
      have HF4 : Hid (Fresh w2 w4) := HF3.out.trans hF4 (fun _ _ e => e)
      clear hw3 H2 hF4 HF3 c1 c2 c3 c4
      by_cases h0 : tE zs c x = 0
      · rw [(twice zs c x).2 h0] at hO4
        obtain ⟨g, a1, d1, a2, d2, hv4, k1, k2, r1, r2⟩ := hO4.two HIt.out.1 HIt.out.2
        subst hv4
        rw [h0]
        have HE : Hid (tE zs c x = 0) := h0
        obtain ⟨lt, hlt2⟩ : ∃ lt, (tL zs c x).length = lt := ⟨_, rfl⟩
        have HLt : Hid ((tL zs c x).length = lt) := hlt2
        rw [hlt2] at HR2 k1 k2 r1 r2 ⊢
        have HS1 : Hid (Unit → _) := fun (_ : Unit) => same64_any _ _ _ _ _ w4 r1 (HR2.out w4 HF4.out)
        have HS2 : Hid (∀ W, Fresh w4 W → Calls Try.prog 15 #[.slice a2 lt d2, .slice ta lt tc] W fun e w' => e = .returned (.bool true) ∧ ∃ n, w' = W.drewN n) := fun W hF => same64_any _ _ _ _ _ W (r2.fresh hF) (HR2.out W (HF4.out.trans hF (fun _ _ e => e)))
        clear hO4 r1 r2 hlt2 h0
        go_wp2_with fail
        refine (HS1.out ()).mono ?_
        rintro e w5 ⟨rfl, n5, hw5⟩
        subst hw5
        clear HS1
        go_wp2_with fail
        refine (HS2.out _ (kept_drewN _ _ _)).mono ?_
        rintro e w6 ⟨rfl, n6, hw6⟩
        have HF6 : Hid (Fresh w2 w6) := by show Fresh _ _; rw [hw6]; exact (HF4.out.drewN n5).drewN n6
        clear HS2 hw6 HF4 k1 k2
        obtain ⟨he1, he2⟩ := tE_zero HE.out
        obtain ⟨hzm, k, R, hck, hk, hR⟩ := mE_zero he1
        subst hck
        obtain ⟨_, ht2, ht3⟩ := tL_ok hzm hk hR (show x.length = k by omega)
        obtain rfl : lx = k := by have := HLx.out; omega
        obtain rfl : lt = R := by have := HLt.out; rw [ht2] at this; omega
        have HZl : Hid (zL zs (lx : Int) = sizesN zs lx ∧ (sizesN zs lx).length = lt ∧ mE zs (lx : Int) = 0 ∧ zs.length = lt * lx) := by
          refine ⟨by unfold zL; rw [if_pos he1]; rfl, by rw [sizesN_rows hR hk]; simp, he1, hR⟩
        have hSz := Sizes_any _ _ zs (lx : Int) w6 (HR.out w6 ((HFr.out.trans HF2.out (fun _ _ e => e)).trans HF6.out (fun _ _ e => e))).1 HI.out.1
        rw [HZl.out.1, HZl.out.2.2.1] at hSz
        have H3 : Hid (Unit → _) := fun (_ : Unit) => hSz
        have HIz : Hid ((sizesN zs lx).length * kb .i64 ≤ 140737488351232 ∧ (∀ z ∈ sizesN zs lx, Fit .i64 z) ∧ ∀ i, 0 ≤ (sizesN zs lx).getD i 0 ∧ (sizesN zs lx).getD i 0 ≤ 134217728) := by
          have hb : ∀ z ∈ sizesN zs lx, 0 ≤ z ∧ z ≤ 134217728 := fun z hz => zL_i64 (lx : Int) HI.out.2.1 z (by rw [HZl.out.1]; exact hz)
          refine ⟨by have := zL_len zs (lx : Int); rw [HZl.out.1] at this; simp [kb]; omega, fun z hz => ?_, fun i => ?_⟩
          · have := hb z hz
            exact ⟨by omega, by omega⟩
          · rcases Nat.lt_or_ge i (sizesN zs lx).length with e | e
            · rw [getD_getElem e]; exact hb _ (List.getElem_mem e)
            · rw [List.getD_eq_getElem?_getD, List.getElem?_eq_none e]; simp
        have HSize : Hid (∀ i, i < lt → -(128 * (sizesN zs lx).getD i 0) ≤ (tL zs (lx : Int) x).getD i 0 ∧ (tL zs (lx : Int) x).getD i 0 ≤ 128 * (sizesN zs lx).getD i 0) := fun i hi => by rw [ht2]; exact times_size hk hR HX8.out hi
        have HT : Hid (tL zs (lx : Int) x = timesN zs lx x) := ht2
        obtain ⟨c1, c2, c3, c4, _⟩ := HP.out w6 ((HFr.out.trans HF2.out (fun _ _ e => e)).trans HF6.out (fun _ _ e => e))
        have hltz : lt ≤ lz := by have := HLn.out.1; have := Nat.le_mul_of_pos_right lt hk; omega
        have hlzm : lz ≤ 1048576 := by have := HLn.out.1; omega
        clear hSz he1 he2 hR ht2 ht3 hzm
        go_wp2_with fail
        refine (H3.out ()).mono ?_
        rintro e w7 hG
        obtain ⟨v7, rfl, hR7, hF7⟩ := hG.row HIz.out.1 HIz.out.2.1
        obtain ⟨sa, sc, hv7, _⟩ := hR7.shape
        rw [HZl.out.2.1] at hv7
        subst hv7
        have HF7 : Hid (Fresh w2 w7) := HF6.out.trans hF7 (fun _ _ e => e)
        have HCz : Hid (0 < lt → ∃ b1 o1 b2 o2, ta = some ⟨b1, o1, none⟩ ∧ sa = some ⟨b2, o2, none⟩ ∧ ∀ W, Fresh w7 W → ∀ i, i < lt → W.cell? ⟨b1, o1 + i, none⟩ = some (zV ((tL zs (lx : Int) x).getD i 0)) ∧ W.cell? ⟨b2, o2 + i, none⟩ = some (zV ((sizesN zs lx).getD i 0))) := fun hp => by
          obtain ⟨b1, o1, e1, _, k1, q1⟩ := (HR2.out w7 HF7.out).cells.2.2.2 hp
          obtain ⟨b2, o2, e2, _, k2, q2⟩ := hR7.cells.2.2.2 hp
          exact ⟨b1, o1, b2, o2, e1, e2, fun W hF i hi => ⟨(hF.cell (p := ⟨b1, o1 + i, none⟩) k1 (fun e => e)).trans (q1 i hi), (hF.cell (p := ⟨b2, o2 + i, none⟩) k2 (fun e => e)).trans (q2 i hi)⟩⟩
        clear H3 hG hR7 hF7 HF6 c1 c2 c3 c4
        go_wp2
        go_loopw [95] (fun iv wx => ∃ i : Nat, i ≤ lt ∧ iv = zV i ∧ Hid (Fresh w7 wx)) (fun iv _ => lt - (RowKit.intOf iv).toNat)
        case atStart => exact ⟨0, Nat.zero_le _, rfl, Kept.refl _ _⟩
        case round =>
          obtain ⟨i, hi, rfl, HFx⟩ := hrel
          by_cases hil : i < lt
          · obtain ⟨b1, o1, b2, o2, rfl, rfl, hcl⟩ := HCz.out (by omega)
            obtain ⟨q1, q2⟩ := hcl _ HFx.out i hil
            obtain ⟨s0, s1⟩ := HSize.out i hil
            obtain ⟨z0, z1⟩ := HIz.out.2.2 i
            have hil' : (i : Int) < (lt : Int) := by omega
            clear hcl
            generalize (tL zs (lx : Int) x).getD i 0 = y at *
            generalize (sizesN zs lx).getD i 0 = z at *
            have hd1 : decide (128 * z < y) = false := by simp; omega
            have hd2 : decide (y < -128 * z) = false := by simp; omega
            have hd3 : decide (y < -(128 * z)) = false := by simp; omega
            go_wp2_with fail
            go_quiet (fail)
            have HFy := show Hid _ from HFx.out.drewN nq
            clear q1 q2
            go_wp2
            go_roundw
            case rel => exact ⟨i + 1, hil, by go_num, HFy.out⟩
            case measure => simp [RowKit.intOf]; omega
          · obtain rfl : i = lt := by omega
            have HF8 : Hid (Fresh w2 wr) := HF7.out.trans HFx.out (fun _ _ e => e)
            have HFW : Hid (∀ W, Fresh w2 W → Fresh W0 W) := fun W hF => (HFr.out.trans HF2.out (fun _ _ e => e)).trans hF (fun _ _ e => e)
            have HRx2 : Hid (∀ W, Fresh w2 W → Rk .i8 (fun b => b < w.heap.size) W (.slice ua lx uc) x) := fun W hF => HRx.out W (HF2.out.trans hF (fun _ _ e => e))
            clear HCz HSize HIz HFx HF7 HFr HRx HF2
            obtain ⟨c1, c2, c3, c4, _⟩ := HP.out wr (HFW.out wr HF8.out)
            have hk0 : ¬ (lx : Int) = 0 := by omega
            by_cases hrem : (ln : Int) % (lx : Int) = 0
            · by_cases hsum : 1048576 < lz + ln
              · have hsum' : (1048576 : Int) < (lz : Int) + (ln : Int) := by omega
                have hrem2 : ((ln : Int) % (lx : Int) != 0) = false := by simp [hrem]
                have HFe : Hid (Fresh W0 wr) := HFW.out wr HF8.out
                clear HF8 HFW HRx2
                go_wp2
                go_roundw
                case rel => exact ⟨j + 1, hlt, by go_num, HFe.out⟩
                case measure => simp [RowKit.intOf]; omega
              · have hsum' : ¬ (1048576 : Int) < (lz : Int) + (ln : Int) := by omega
                have hrem2 : ((ln : Int) % (lx : Int) != 0) = false := by simp [hrem]
                obtain ⟨S, hS⟩ : ∃ S, ns.length = S * lx := ⟨ln / lx, by
                  have h1 : ln % lx = 0 := by omega
                  have h2 := Nat.div_add_mod ln lx
                  rw [HLn.out.2, Nat.mul_comm]; omega⟩
                obtain ⟨y1, y2, y3⟩ := tL_ok (by rw [HLn.out.2]; omega) hk hS HLx.out
                obtain ⟨z1, z2, z3⟩ := tL_ok (zs := zs ++ ns) (R := i + S) (by rw [List.length_append, HLn.out.1, HLn.out.2]; omega) hk (by rw [List.length_append, HZl.out.2.2.2, hS, Nat.add_mul]) HLx.out
                have HApp : Hid (tL (zs ++ ns) (lx : Int) x = tL zs (lx : Int) x ++ tL ns (lx : Int) x ∧ (tL zs (lx : Int) x).length = i ∧ (tL ns (lx : Int) x).length = S ∧ S ≤ 1048576 ∧ i ≤ 1048576) := by
                  refine ⟨by rw [z2, y2, HT.out]; exact timesN_append hk HZl.out.2.2.2 hS x, HLt.out, by rw [y2, y3], ?_, by omega⟩
                  have := Nat.le_mul_of_pos_right S hk
                  have := HLn.out.2
                  omega
                have hT2 := Times_any _ _ _ _ ns x (lx : Int) wr (HR.out wr (HFW.out wr HF8.out)).2 (HRx2.out wr HF8.out) HI.out.1
                rw [y1] at hT2
                have H4 : Hid (Unit → _) := fun (_ : Unit) => hT2
                have HIn : Hid (((tL ns (lx : Int) x).length * kb .i64 ≤ 140737488351232 ∧ ∀ z ∈ tL ns (lx : Int) x, Fit .i64 z) ∧ ((tL (zs ++ ns) (lx : Int) x).length * kb .i64 ≤ 140737488351232 ∧ ∀ z ∈ tL (zs ++ ns) (lx : Int) x, Fit .i64 z) ∧ tE (zs ++ ns) (lx : Int) x = 0) := ⟨⟨by have := tL_len ns x (lx : Int); simp [kb]; omega, tL_i64 _ HI.out.2.2 HX8.out⟩, ⟨by have := tL_len (zs ++ ns) x (lx : Int); simp [kb]; omega, tL_i64 _ (fun z hz => by rcases List.mem_append.1 hz with e | e; exact HI.out.2.1 z e; exact HI.out.2.2 z e) HX8.out⟩, z1⟩
                clear hT2 y1 y2 y3 z1 z2 z3 hS
                go_wp2_with fail
                refine (H4.out ()).mono ?_
                rintro e w9 hG
                obtain ⟨v9, rfl, hR9, hF9⟩ := hG.row HIn.out.1.1 HIn.out.1.2
                obtain ⟨ba, bc, hv9, _⟩ := hR9.shape
                rw [HApp.out.2.2.1] at hv9
                subst hv9
                have HF9 : Hid (Fresh w2 w9) := HF8.out.trans hF9 (fun _ _ e => e)
                have HR9 : Hid (∀ W, Fresh w9 W → Rk .i64 (fun _ => True) W (.slice ba S bc) (tL ns (lx : Int) x)) := fun W hF => (hR9.fresh hF).mono (fun _ _ => trivial)
                clear c1 c2 c3 c4 H4 hG hR9 hF9 HF8
                obtain ⟨c1, c2, c3, c4, hlow⟩ := HP.out w9 (HFW.out w9 HF9.out)
                have hRd := HR.out w9.drew (HFW.out _ HF9.out.drew)
                obtain ⟨a1, e1, W1, a2, e2, W2, hr1, hr2, hW1, hW2, hRb⟩ := bothK ty8 w9.drew _ _ zs ns _ _ hRd.1 hRd.2 (by rw [HLn.out.1, HLn.out.2]; simp [kb]; omega)
                have HW1 : Hid (Fresh w2 W1 ∧ Fresh w2 W2) := ⟨HF9.out.drew.trans hW1 (fun _ _ e => e), HF9.out.drew.trans hW2 (fun _ _ e => e)⟩
                obtain ⟨m1, m2, m3, m4, _⟩ := HP.out W1 (HFW.out _ HW1.out.1)
                obtain ⟨o1, o2, o3, o4, _⟩ := HP.out W2 (HFW.out _ HW1.out.2)
                have hT3 := Times_any _ _ _ _ (zs ++ ns) x (lx : Int) W2 hRb (HRx2.out W2 HW1.out.2) HI.out.1
                rw [HIn.out.2.2] at hT3
                have H5 : Hid (Unit → _) := fun (_ : Unit) => hT3
                have HW9 : Hid (Fresh w9 W2) := (Kept.refl _ w9).drew.trans hW2 (fun _ _ e => e)
                clear hRd hW1 hW2 hRb hT3
                generalize (zs ++ ns).length = lzn at *
                go_upto_region 22 with fail
                go_cut [15, 16] (fun v e w' => ∃ da dl dc, v = .slice da dl dc ∧ e = zV 0 ∧ Hid (Fresh w9 w' ∧ Rk .i64 (fun _ => True) w' (.slice da dl dc) (tL (zs ++ ns) (lx : Int) x)))
                case first =>
                  have t0 := HP.out w9.drew (HFW.out _ HF9.out.drew)
                  have t1 := HP.out (w9.drew.alloc (.cells #[] 49)) (HFW.out _ (HF9.out.drew.alloc _))
                  have HSt : Hid (∀ W, Fresh w2 W → W.cell? ⟨w.heap.size, 0, none⟩ = some (.slice wa lz wcp) ∧ W.cell? ⟨w.heap.size, 1, none⟩ = some (zV (lx : Int)) ∧ W.cell? ⟨w.heap.size + 1, 0, none⟩ = some (.slice na ln ncp)) := fun W hF => by
                    have q := HP.out W (HFW.out W hF)
                    exact ⟨q.1, q.2.1, q.2.2.2.1⟩
                  have hS0 := HSt.out w9.drew HF9.out.drew
                  have hS1 := HSt.out (w9.drew.alloc (.cells #[] 49)) (HF9.out.drew.alloc _)
                  have hS2 := HSt.out W1 HW1.out.1
                  have hS3 := HSt.out W2 HW1.out.2
                  clear HR2 HR9 HP HR HC HRx2 t0 t1 m1 m2 m3 m4 o1 o2 o3 o4
                  go_region_held_law (fun X => X.cell? ⟨w.heap.size, 0, none⟩ = some (.slice wa lz wcp) ∧ X.cell? ⟨w.heap.size, 1, none⟩ = some (zV (lx : Int)) ∧ X.cell? ⟨w.heap.size + 1, 0, none⟩ = some (.slice na ln ncp))
                    (first | exact hS0 | exact hS1 | exact hS2 | exact hS3 | exact hS5 | assumption)
                    (first
                      | (refine step_append_run rfl _ _ _ _ rfl _ _ (by rfl) (by rfl) _ _ hr1 ?_)
                      | (refine step_append_run rfl _ _ _ _ rfl _ _ (by rfl) (by rfl) _ _ hr2 ?_)
                      | (go_at_call 13; (with_reducible refine (H5.out ()).mono ?_); rintro q X5 hG5; obtain ⟨v5, rfl, hR5, hF5⟩ := hG5.row HIn.out.2.1.1 HIn.out.2.1.2; obtain ⟨da, dc, hv5, _⟩ := hR5.shape; subst hv5; have hS5 := HSt.out X5 (HW1.out.2.trans hF5 (fun _ _ e => e))))
                  all_goals
                    have HX := show Hid (Fresh w9 X5 ∧ _) from ⟨HW9.out.trans hF5 (fun _ _ e => e), hR5.mono (q := fun _ => True) (fun _ _ => trivial)⟩
                    clear hG5 hR5 hF5 hr1 hr2 c1 c2 c3 c4 hS0 hS1 hS2 hS3 hS5
                    go_wp2
                    go_meet
                    case rel => exact ⟨da, _, dc, rfl, rfl, HX.out⟩
                case rest =>
                  obtain ⟨da, dl, dc, rfl, rfl, HB⟩ := hcut
                  have hFc : Fresh w2 wc := HF9.out.trans HB.out.1 (fun _ _ e => e)
                  have hRa := HR2.out wc hFc
                  have hRb := HR9.out wc HB.out.1
                  obtain ⟨p1, f1, V1, p2, f2, V2, hs1, hs2, hV1, hV2, hRs⟩ := bothK ty64 wc _ _ _ _ _ _ hRa hRb (by rw [HApp.out.2.1, HApp.out.2.2.1]; have := HApp.out.2.2.2; simp [kb]; omega)
                  rw [HApp.out.2.1] at hs1 hs2
                  have hS7 := same64_any _ _ _ _ _ V2 (HB.out.2.fresh hV2) (by rw [HApp.out.1]; exact hRs)
                  have H7 : Hid (Unit → _) := fun (_ : Unit) => hS7
                  have HFe : Hid (Fresh W0 V2) := HFW.out V2 (hFc.trans hV2 (fun _ _ e => e))
                  clear hFc hRa hRb hV1 hV2 hRs hS7 hr1 hr2 m1 m2 m3 m4 o1 o2 o3 o4 c1 c2 c3 c4 HR2 HR9 HB H5
                  generalize (tL zs (lx : Int) x ++ tL ns (lx : Int) x).length = lab at *
                  go_wp2_with (at_builtin; first | (refine wpList_append_guard _ (by rfl) _ _ _ _ rfl _ _ rfl rfl _ _ hs1 ?_; clear hs1) | (refine wpList_append_guard _ (by rfl) _ _ _ _ rfl _ _ rfl rfl _ _ hs2 ?_; clear hs2))
                  refine (H7.out ()).mono ?_
                  rintro e V3 ⟨rfl, n3, hV3⟩
                  have HFf : Hid (Fresh W0 V3) := by show Fresh _ _; rw [hV3]; exact HFe.out.drewN n3
                  clear hV3 H7 HFe
                  go_wp2
                  go_roundw
                  case rel => exact ⟨j + 1, hlt, by go_num, HFf.out⟩
                  case measure => simp [RowKit.intOf]; omega
            · have hrem2 : ((ln : Int) % (lx : Int) != 0) = true := bne_iff_ne.2 hrem
              have HFe : Hid (Fresh W0 wr) := HFW.out wr HF8.out
              clear HF8 HFW HRx2
              go_wp2
              go_roundw
              case rel => exact ⟨j + 1, hlt, by go_num, HFe.out⟩
              case measure => simp [RowKit.intOf]; omega
      · have h0' : (tE zs c x == 0) = false := by simp [h0]
        have HF5 : Hid (Fresh W0 w4) := (HFr.out.trans HF2.out (fun _ _ e => e)).trans HF4.out (fun _ _ e => e)
        obtain ⟨vv, vl, vc, hv4⟩ : ∃ a l c, v4 = .slice a l c := by
          rcases hO4 with ⟨rfl, _⟩ | ⟨g, us, h1, _⟩
          · exact ⟨_, _, _, rfl⟩
          · exact ⟨_, _, _, h1⟩
        subst hv4
        clear hO4 HIt HRx
        generalize tE zs c x = E at *
        generalize (tL zs c x).length = lt at *
        go_wp2
        go_roundw
        case rel => exact ⟨j + 1, hlt, by go_num, HF5.out⟩
        case measure => simp [RowKit.intOf]; omega
    · obtain rfl : j = n := by omega
      have HF : Hid (Fresh w wr) := HF0.out.trans HFr.out (fun _ _ e => e)
      clear HC HP HR
      go_wp2
      go_ret
      exact ⟨rfl, HF.out⟩

set_option maxRecDepth 100000 in
theorem contract (H : Type) (enc : TypeId × Value → H) (W : World) (base : Nat) (args : Array Value) (ds gs : List (DataW H)) (before : List MemPlace)
    (hval : ∀ (j : Nat) t v, Try.f8.params[j]? = some t → args[j]? = some v → Value.okWide Try.prog W .any base t v)
    (hW : DataW.Whole enc Try.prog Try.f8.params.toList Rows.vecBatchesSpec.vars false W args.toList ds gs before) 
    (hsz : (DataW.weightsEach Try.prog (Try.f8.params.toList ++ []) (ds ++ gs)).all (· ≤ reachBytes) = true) (hL : laidMetH Try.prog Rows.vecBatchesRow.laid W) :
    Calls Try.prog 8 args W fun e W' => ∃ v, e = .returned v ∧ Rows.vecBatchesSpec.post enc Try.prog Try.f8 false true false false W args v W' := by
  have hW' := hW
  obtain ⟨p, q, hA0, hV, rfl, hfz, hnd⟩ := hW
  have hA : DataW.TrodAll enc Try.prog W 0 (fun _ => true) true Try.f8.params.toList args.toList ds p := hA0
  rw [Try.params8] at hA hval hsz
  obtain ⟨rfl, rfl⟩ := trodVars_none hV
  have _hL := hL
  obtain ⟨v0, v1, d0, d1, p0, p1, rfl, rfl, rfl, h0, h1⟩ := trodAll_two hA
  obtain ⟨wv, xv, c, zs, L, rfl, hc, hz, hx⟩ := matrix_of (hval 0 34 v0 rfl rfl) h0 hsz (j := 0) rfl rfl
  obtain ⟨nv, nx, nc, ns, L2, rfl, _, hn, _⟩ := matrix_of (hval 1 34 v1 rfl rfl) h1 hsz (j := 1) rfl rfl
  refine (walk wv xv nv nx zs ns L c nc W hz hx hn hc).mono fun e W' ⟨he, hk⟩ => ?_
  subst he
  exact ⟨_, rfl, post_law rfl (by kernel_rfl) (by kernel_rfl) hW' rfl hk⟩

set_option maxRecDepth 100000 in
theorem laid_met (os : Os) : laidMet Try.prog Rows.vecBatchesRow.laid ((layIn (World.holding Try.prog os ⟨#[], #[], []⟩)).forCall (fun _ _ => 0) ⟨#[], #[.agg #[.slice none 0 0, .int .i64 0, .slice none 0 0], .agg #[.slice none 0 0, .int .i64 0, .slice none 0 0]], []⟩).memory :=
  laidMet_of_run' 8 (by kernel_rfl) (by kernel_rfl)
set_option maxRecDepth 100000 in
theorem reads (os : Os) {H : Type} (enc : TypeId × Value → H) : ∃ places, DataW.whole enc Try.prog ((layIn (World.holding Try.prog os ⟨#[], #[], []⟩)).forCall (fun _ _ => 0) ⟨#[], #[.agg #[.slice none 0 0, .int .i64 0, .slice none 0 0], .agg #[.slice none 0 0, .int .i64 0, .slice none 0 0]], []⟩).memory Try.f8.params.toList Rows.vecBatchesSpec.vars false (#[.agg #[.slice none 0 0, .int .i64 0, .slice none 0 0], .agg #[.slice none 0 0, .int .i64 0, .slice none 0 0]] : Array Value).toList 8 = some ([.agg [.nil, .lit (.int .i64 0), .nil], .agg [.nil, .lit (.int .i64 0), .nil]], [], places) :=
  ⟨[], by kernel_rfl⟩

set_option maxRecDepth 100000 in
theorem lifted (os : Os) (started : os.Started) (H : Type) (enc : TypeId × Value → H) (F : Stop.Interp) :
    ReturnsInHanded {} Try.checked os 8 .any ((OpenSpec.ofChange Rows.vecBatchesSpec).preRow enc Try.prog Try.f8 Rows.vecBatchesRow.domain false Rows.vecBatchesRow.laid) (((OpenSpec.ofChange Rows.vecBatchesSpec).at F).post enc Try.prog Try.f8 false true false false) := by
  obtain ⟨places, hx⟩ := reads os enc
  refine returnsInHanded_of_row (C := Try.checked) (s := OpenSpec.ofChange Rows.vecBatchesSpec) Try.own started (by kernel_rfl) Try.func8
    (witness_row_at (enc := enc) (C := Try.checked) false (layIn (World.holding Try.prog os ⟨#[], #[], []⟩)) #[.agg #[.slice none 0 0, .int .i64 0, .slice none 0 0], .agg #[.slice none 0 0, .int .i64 0, .slice none 0 0]] rfl (by kernel_rfl) (by kernel_rfl) (by kernel_rfl)
      (OpenSpec.preRow_of_cond 8 hx (by kernel_rfl) (fun k hk => by cases hk) (by kernel_rfl) (laid_met os))) ?_
  intro W base args ds gs before hval hW _ hc hsz hL _ _
  exact contract H enc W base args ds gs before hval hW hsz hL

theorem said : Rows.VecBatchesSaid :=
  OpenClaim.holds_of_cond 8 Try.f8 rfl rfl rfl rfl rfl rfl rfl ⟨rfl, rfl, rfl, rfl, rfl⟩ rfl rfl rfl rfl rfl (by kernel_rfl) Try.func8 (by kernel_rfl)
    (of_decide_eq_true (by kernel_rfl)) (by unfold Func.isWrapper; first | (rw [if_pos (by decide +kernel)]; kernel_rfl) | (rw [if_neg (by decide +kernel)]; exact ⟨rfl, rfl⟩))
    (fun os started H enc _ F => by rw [OpenClaim.pre_eq_preRow]; exact lifted os started H enc F)


end Go.Proofs.Ytjffiojjjmecgaa.Batches8
namespace Go.Proofs.Ytjffiojjjmecgaa
theorem vecBatches_holds : Rows.VecBatchesSaid := Batches8.said
end Go.Proofs.Ytjffiojjjmecgaa
