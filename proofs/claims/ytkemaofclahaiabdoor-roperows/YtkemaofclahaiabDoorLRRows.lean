/-
  For every list of rows, all Angles and every Placed the statement RopeRows answers true: awake does; At and Rows are the document's; what is handed in stays; its card, tied to the program's text.
-/
import Derived.Test.YtkemaofclahaiabDoorRoi
import Derived.Test.YtkemaofclahaiabDoorRrc
namespace Go.Proofs.YtkemaofclahaiabDoor.RRows
open Go.ChangeShapes Go.WideShapes Go.ChangeAt Go.RowKit Go.Lib Go.Maps Go.Joins

set_option maxHeartbeats 16000000 in
set_option maxRecDepth 100000 in
theorem walk (xv cv sv : Value) (L : List (List Int)) (cs ss : List Int) (size first half place : Int) (w : World) (hS : Sin w) (hx : LL .i8 (fun b => b < w.heap.size) w xv L) (hc : Rk .i8 (fun b => b < w.heap.size) w cv cs) (hs : Rk .i8 (fun b => b < w.heap.size) w sv ss) (hsz : I64 size) (hf : I64 first) (hpl : I64 place) :
    Calls Tryd.prog 3 #[xv, .agg #[cv, sv], .agg #[zV size, zV first, zV half, zV place]] w fun e w' => e = .returned (.bool true) ∧ Fresh w w' := by
  obtain ⟨W1, hW1⟩ : ∃ W1, W1 = w.alloc (.cells #[cv, sv] 25) := ⟨_, rfl⟩
  obtain ⟨W0, hW0⟩ : ∃ W0, W0 = W1.alloc (.cells #[zV size, zV first, zV half, zV place] 27) := ⟨_, rfl⟩
  have hF1 : Fresh w W1 := by rw [hW1]; exact (Kept.refl _ w).alloc _
  have hF10 : Fresh W1 W0 := by rw [hW0]; exact (Kept.refl _ W1).alloc _
  have HF0 : Hid (Fresh w W0) := hF1.trans hF10 (fun _ _ e => e)
  have sz1 : W1.heap.size = w.heap.size + 1 := by rw [hW1]; simp
  have p1 : W0.heap[w.heap.size]? = some (.cells #[cv, sv] 25 (0, 0)) := hF10.at (by rw [hW1]; exact heap_alloc_new w _) (fun e => e)
  have p2 : W0.heap[w.heap.size + 1]? = some (.cells #[zV size, zV first, zV half, zV place] 27 (0, 0)) := by rw [← sz1, hW0]; exact heap_alloc_new W1 _
  have HP : Hid (∀ W, Fresh W0 W → Bx W0 w.heap.size cv sv W) := fun W hF => by
    have q1 := hF.at p1 (fun e => e)
    exact ⟨⟨by rw [Lib.cell_of_heap q1]; rfl, by rw [Lib.cell_of_heap q1]; rfl⟩, hF⟩
  have HP2 : Hid (∀ W, Fresh W0 W → W.cell? ⟨w.heap.size + 1, 0, none⟩ = some (zV size) ∧ W.cell? ⟨w.heap.size + 1, 1, none⟩ = some (zV first) ∧ W.cell? ⟨w.heap.size + 1, 2, none⟩ = some (zV half) ∧ W.cell? ⟨w.heap.size + 1, 3, none⟩ = some (zV place)) := fun W hF => by
    have q1 := hF.at p2 (fun e => e)
    exact ⟨by rw [Lib.cell_of_heap q1]; rfl, by rw [Lib.cell_of_heap q1]; rfl, by rw [Lib.cell_of_heap q1]; rfl, by rw [Lib.cell_of_heap q1]; rfl⟩
  have HAW : Hid (Unit → _) := fun (_ : Unit) => awake_any W0 (hS.fresh HF0.out)
  have HR : Hid (∀ W, Fresh W0 W → LL .i8 (fun b => b < w.heap.size) W xv L ∧ Rk .i8 (fun b => b < w.heap.size) W cv cs ∧ Rk .i8 (fun b => b < w.heap.size) W sv ss) := fun W hF => by
    have := HF0.out.trans hF (fun _ _ e => e)
    exact ⟨hx.fresh this, hc.fresh this, hs.fresh this⟩
  have HI : Hid (I64 size ∧ I64 first ∧ I64 place) := ⟨hsz, hf, hpl⟩
  obtain ⟨eF, hEF⟩ : ∃ eF : Nat → Int, ∀ i : Nat, eF i = rwE (L.getD i []) size cs ss (first + (i : Int)) := ⟨_, fun _ => rfl⟩
  obtain ⟨lF, hLF⟩ : ∃ lF : Nat → List Int, ∀ i : Nat, lF i = rwL (L.getD i []) size cs ss (first + (i : Int)) := ⟨_, fun _ => rfl⟩
  have HEF : Hid ((∀ i : Nat, eF i = rwE (L.getD i []) size cs ss (first + (i : Int))) ∧ ∀ i : Nat, lF i = rwL (L.getD i []) size cs ss (first + (i : Int))) := ⟨hEF, hLF⟩
  clear hEF hLF
  have HB : Hid (∀ E, _) := fun E => And.intro (hc.at E half place) (hs.at E half place)
  have hmany := hx.many
  obtain ⟨xo, xc, hxv, _⟩ := hx.shape
  obtain ⟨co, cc, hcv, _⟩ := hc.shape
  obtain ⟨so, sc, hsv, _⟩ := hs.shape
  have HT2 : Hid (∀ Z, Fresh W0 Z → ∀ a0, _) := fun Z hZ a0 => twin0 ty8 23 Z a0 cv cs _ (HR.out Z hZ).2.1
  have HT3 : Hid (∀ Z, Fresh W0 Z → ∀ a0, _) := fun Z hZ a0 => twin0 ty8 23 Z a0 sv ss _ (HR.out Z hZ).2.2
  have hW : (w.alloc (.cells #[cv, sv] 25)).alloc (.cells #[zV size, zV first, zV half, zV place] 27) = W0 := by rw [hW0, hW1]
  clear hS p1 p2 hx hc hs hsz hf hpl hW0 hW1 sz1 hF1 hF10
  subst hxv hcv hsv
  go_enter Tryd.func3, Tryd.ntmps3
  go_wp2_with fail
  refine (HAW.out ()).mono ?_
  rintro e w1 ⟨rfl, hF1⟩
  have hB0 : Bx W0 w.heap.size _ _ w1.drew := (HP.out w1 hF1).drew
  clear HAW hF1 hW
  go_upto_region 3 with fail
  go_cut [7, 8] (fun bv dv w' => ∃ b1 b2 d1 d2, bv = .slice b1 cs.length b2 ∧ dv = .slice d1 ss.length d2 ∧ Hid (Fresh W0 w' ∧ Rk .i8 (fun _ => True) w' bv cs ∧ Rk .i8 (fun _ => True) w' dv ss))
  case first =>
    clear HR HP HP2 HB
    go_region_held3 (fun X => (X.cell? ⟨w.heap.size, 0, none⟩ = some (.slice co cs.length cc) ∧ X.cell? ⟨w.heap.size, 1, none⟩ = some (.slice so ss.length sc)) ∧ Fresh W0 X)
      (first | exact hB0 | exact hS2 | exact hS3 | exact Bx.alloc (by assumption) _ | assumption)
      (first
        | (have hBw : Bx W0 w.heap.size (.slice co cs.length cc) (.slice so ss.length sc) _ := (by assumption); refine step_twin rfl _ _ _ _ rfl _ _ rfl (by rfl) _ (HT2.out _ hBw.2 _) ?_; rintro _ YB ⟨tb, tbc, rfl, hFB, hRB⟩; have hS2 : Bx W0 w.heap.size (.slice co cs.length cc) (.slice so ss.length sc) YB := hBw.fresh hFB)
        | (have hBw : Bx W0 w.heap.size (.slice co cs.length cc) (.slice so ss.length sc) _ := (by assumption); refine step_twin rfl _ _ _ _ rfl _ _ rfl (by rfl) _ (HT3.out _ hBw.2 _) ?_; rintro _ YC ⟨td, tdc, rfl, hFC, hRC⟩; have hS3 : Bx W0 w.heap.size (.slice co cs.length cc) (.slice so ss.length sc) YC := hBw.fresh hFC))
    all_goals
      have hBC : Fresh YB YC := by first
        | exact hFC
        | exact ((Kept.refl (fun _ => False) YB).alloc _).trans hFC (fun _ _ e => e)
      have HX : Hid (Fresh W0 YC ∧ Rk .i8 (fun _ => True) YC (.slice tb cs.length tbc) cs ∧ Rk .i8 (fun _ => True) YC (.slice td ss.length tdc) ss) := ⟨hS3.2, (hRB.fresh hBC).mono (fun _ _ => trivial), hRC.mono (fun _ _ => trivial)⟩
      clear hBC hFB hFC hRB hRC hS2 hS3 hB0
      go_wp2
      go_meet
      case rel => exact ⟨_, _, _, _, rfl, rfl, HX.out⟩
  case rest =>
    obtain ⟨b1, b2, d1, d2, rfl, rfl, HA⟩ := hcut
    clear HT2 HT3 hB0
    have HK : Hid (∀ W, Fresh wc W → Fresh W0 W ∧ Rk .i8 (fun _ => True) W (.slice b1 cs.length b2) cs ∧ Rk .i8 (fun _ => True) W (.slice d1 ss.length d2) ss) := fun W hF => ⟨HA.out.1.trans hF (fun _ _ e => e), HA.out.2.1.fresh hF, HA.out.2.2.fresh hF⟩
    have HFc : Hid (Fresh W0 wc) := HA.out.1
    have H1 : Hid (Unit → _) := fun (_ : Unit) => At_any _ _ _ _ cs ss half place wc HA.out.2.1 HA.out.2.2 HI.out.2.2
    obtain ⟨c1, c2, c3, c4⟩ := HP2.out wc HFc.out
    clear HA
    go_wp2_with fail
    refine (H1.out ()).mono ?_
    rintro e w2 hG
    obtain ⟨u2, v2, rfl, hu2, hv2, _, hF2⟩ := hG
    have HF2 : Hid (Fresh wc w2) := hF2
    have HR2 : Hid _ := And.intro (rk_of_own hu2 (HB.out _).1.1 (HB.out _).1.2) (rk_of_own hv2 (HB.out _).2.1 (HB.out _).2.2)
    have HO2 : Hid _ := hu2
    obtain ⟨uo, uc, huv⟩ := ownsRow_shape hu2
    have HQ : Hid _ := HR.out w2 (HK.out w2 hF2).1
    have H2 : Hid (Unit → _) := fun (_ : Unit) => refAt_any _ _ _ _ cs ss half place w2 HQ.out.2.1 HQ.out.2.2 HI.out.2.2
    clear c1 c2 c3 c4
    obtain ⟨⟨m1, m2⟩, _⟩ := HP.out w2 (HK.out w2 hF2).1
    obtain ⟨c1, c2, c3, c4⟩ := HP2.out w2 (HK.out w2 hF2).1
    clear H1 hu2 hv2 hF2 HQ
    subst huv
    generalize hE : atE cs.length ss.length half place = E at *
    go_wp2_with fail
    refine (H2.out ()).mono ?_
    rintro e w3 ⟨u3, v3, rfl, hu3, hv3, hD3⟩
    have HF3 : Hid (Fresh wc w3) := HF2.out.trans hD3.fresh (fun _ _ e => e)
    have HO3 : Hid _ := owns_kept HO2.out hD3.fresh (fun _ _ e => e)
    have H3 : Hid (Unit → _) := fun (_ : Unit) => same_any _ _ _ _ _ w3 (HR2.out.1.fresh hD3.fresh) hu3
    have H4 : Hid (∀ W, Fresh w3 W → _) := fun W hW => same_any _ _ _ _ _ W ((HR2.out.2.fresh hD3.fresh).fresh hW) (hv3.fresh hW)
    clear H2 hu3 hv3 hD3 HF2 HR2 HO2 m1 m2 c1 c2 c3 c4
    go_wp2_with fail
    refine (H3.out ()).mono ?_
    rintro e w4 ⟨rfl, n4, hw4⟩
    have HF34 : Hid (Fresh w3 w4) := by show Fresh _ _; rw [hw4]; exact kept_drewN _ _ _
    clear hw4 H3
    go_wp2_with fail
    refine (H4.out _ HF34.out).mono ?_
    rintro e w5 ⟨rfl, n5, hw5⟩
    have hF35 : Fresh w3 w5 := by rw [hw5]; exact HF34.out.drewN n5
    have HF5 : Hid (Fresh wc w5) := HF3.out.trans hF35 (fun _ _ e => e)
    have HO5 : Hid (∃ zs : List Int, w5.ownsRow wc.heap.size 35 1 (.slice uo (atL cs E half place).length uc) (atL cs E half place).length (zs.map (Value.int .i8))) := ⟨_, owns_kept HO3.out hF35 (fun _ _ e => e)⟩
    clear hw5 hF35 H4 HF34 HF3 HO3
    have hm : (atL cs E half place).length ≤ 140737488351232 := by have := (HB.out E).1.1; omega
    generalize (atL cs E half place).length = m at *
    clear hE
    go_wp2
    go_loopw [76] (fun iv wr => ∃ i : Nat, i ≤ m ∧ iv = zV i ∧ Hid ((∃ zs : List Int, wr.ownsRow wc.heap.size 35 1 (.slice uo m uc) m (zs.map (Value.int .i8))) ∧ Fresh wc wr)) (fun iv _ => m - (RowKit.intOf iv).toNat)
    case atStart => exact ⟨0, Nat.zero_le _, rfl, HO5.out, HF5.out⟩
    case round =>
      obtain ⟨i, hi, rfl, HA⟩ := hrel
      clear HO5 HF5
      by_cases hlt : i < m
      · obtain ⟨⟨zs, hO⟩, hF⟩ := HA.out
        obtain ⟨g, gc, hg⟩ : ∃ g gc, Value.slice uo m uc = .slice (some ⟨g, 0, none⟩) m gc := by
          rcases hO.2 with ⟨_, e⟩ | ⟨g', cap', cur, hv, _⟩
          · omega
          · exact ⟨g', cap', hv⟩
        cases hg
        have f3 := own_frozen hO i
        have g3 := own_get hO i hlt
        have hb := (own_block hO).1
        have HX : Hid ((∃ zs : List Int, (wr.setCell ⟨g, i, none⟩ (.int .i8 99)).ownsRow wc.heap.size 35 1 (.slice (some ⟨g, 0, none⟩) m uc) m (zs.map (Value.int .i8))) ∧ Fresh wc (wr.setCell ⟨g, i, none⟩ (.int .i8 99))) := by
          refine ⟨⟨zs.set i 99, ?_⟩, hF.setCell (fun e => by simp at e; omega) _⟩
          rw [List.map_set]
          exact own_setB hO
        have hlt' : (i : Int) < (m : Int) := by omega
        clear hO hF HA hb
        generalize zs.getD i 0 = z at *
        go_wp2
        go_roundw
        case rel => exact ⟨i + 1, hlt, by go_num, HX.out⟩
        case measure => simp [RowKit.intOf]; omega
      · obtain rfl : i = m := by omega
        rename World => wd
        have HF6 : Hid (Fresh wc wd) := HA.out.2
        clear HA hm
        have HC : Hid _ := (HR.out wd (HK.out wd HF6.out).1).1.stay
        obtain ⟨nx, hnx⟩ : ∃ nx, L.length = nx := ⟨_, rfl⟩
        have HNX : Hid (L.length = nx) := hnx
        have HRL : Hid (∀ W, Fresh wd W → LL .i8 (fun b => b < w.heap.size) W (.slice xo nx xc) L) := fun W hW => by rw [← hnx]; exact (HR.out W (HK.out W (HF6.out.trans hW (fun _ _ e => e))).1).1
        rw [hnx] at HC hmany ⊢
        clear hnx
        go_wp2
        go_loopw [16, 85] (fun ov iv wq => ∃ (j : Nat) (us : List Value) (ov' : Value), j ≤ nx ∧ iv = zV j ∧ ov = ov' ∧ Hid (wq.ownsRow wd.heap.size 23 1 ov' j us ∧ Us .i8 (fun b => wd.heap.size ≤ b ∧ b < wq.heap.size ∧ ov'.ownBlock ≠ some b) wq us (L.take j) ∧ Fresh wd wq)) (fun _ iv _ => nx - (RowKit.intOf iv).toNat)
        case atStart => exact ⟨0, [], _, Nat.zero_le _, rfl, rfl, own_nil _ _ _, Us.nil _ _ _, Kept.refl _ _⟩
        case round =>
          obtain ⟨j, us, ov', hj, rfl, rfl, HA⟩ := hrel
          obtain ⟨oo, oc, hov⟩ := ownsRow_shape HA.out.1
          subst hov
          by_cases hlt : j < nx
          · obtain ⟨b, off, rfl, hcell⟩ := HC.out (by omega)
            obtain ⟨a1, l1, k1, g1, hr⟩ := hcell wr HA.out.2.2 j hlt
            have hlt' : (j : Int) < (nx : Int) := by omega
            have hFe : Fresh wr (wr.alloc (.cells #[] 35)) := (Kept.refl _ _).alloc _
            obtain ⟨v3, Y, hr1, ta, tc, hv3, hFY, hRY⟩ := twin0 ty8 23 (wr.alloc (.cells #[] 35)) ⟨wr.heap.size, 0, none⟩ _ (L.getD j []) _ (hr.fresh hFe)
            have hF3 : Fresh wr Y := hFe.trans hFY (fun _ _ e => e)
            obtain ⟨v2, W2, e2, o2, kk2, b2'⟩ := pushL tyL8 Y wd.heap.size (.slice oo j oc) j us v3 (by rw [hv3]; rfl) (owns_kept HA.out.1 hF3 (fun _ _ e => e)) (by omega) (Nat.le_trans HA.out.2.2.size hF3.size)
            have hge : ∀ k, (Value.slice oo j oc).ownBlock = some k → wd.heap.size ≤ k ∧ k < wr.heap.size := fun k hk => ⟨own_ge HA.out.1 hk, owns_lt HA.out.1 hk⟩
            have HN1 : Hid (W2.ownsRow wd.heap.size 23 1 v2 (j + 1) (us ++ [v3]) ∧ Us .i8 (fun b => wd.heap.size ≤ b ∧ b < W2.heap.size ∧ v2.ownBlock ≠ some b) W2 (us ++ [v3]) (L.take (j + 1)) ∧ Fresh wd W2) := by
              have hs1 := HA.out.2.2.size
              have hs2 := hF3.size
              have hs3 := kk2.size
              have hs4 := hFe.size
              refine ⟨o2, ?_, (HA.out.2.2.trans hF3 (fun _ _ e => e)).trans kk2 (fun i hi e => by have := (hge i e).1; omega)⟩
              rw [show L.take (j + 1) = L.take j ++ [L.getD j []] by rw [List.take_succ_eq_append_getElem (by rw [HNX.out]; exact hlt), List.getD_eq_getElem?_getD, List.getElem?_eq_getElem (by rw [HNX.out]; exact hlt)]; rfl]
              have u1 : Us .i8 (fun b => wd.heap.size ≤ b ∧ b < Y.heap.size ∧ (Value.slice oo j oc).ownBlock ≠ some b) Y us (L.take j) := (HA.out.2.1.kept hF3 (fun _ _ e => e)).mono (fun b hb => ⟨hb.1, by omega, hb.2.2⟩)
              have u2 := u1.snoc (hRY.mono (q := fun b => wd.heap.size ≤ b ∧ b < Y.heap.size ∧ (Value.slice oo j oc).ownBlock ≠ some b) (fun b hb => ⟨by omega, hb.2, fun e => by have := (hge b e).2; omega⟩))
              refine (u2.kept kk2 (fun b hb e => hb.2.2 e)).mono (fun b hb => ⟨hb.1, by omega, fun e => ?_⟩)
              rcases b2' with q | q
              · rw [q] at e; exact hb.2.2 e
              · rw [q] at e; simp at e; omega
            subst hv3
            clear hcell hr hFe hFY hRY hF3 o2 kk2 b2' hge HA
            go_wp2_with (at_builtin; first | (refine Lib.wpList_append_run _ rfl _ _ _ _ rfl _ _ rfl rfl _ _ hr1 ?_; clear hr1) | (refine Lib.wpList_append_run _ rfl _ _ _ _ rfl _ _ rfl rfl _ _ e2 ?_; clear e2))
            go_roundw
            case rel => exact ⟨j + 1, _, v2, hlt, by go_num, rfl, HN1.out⟩
            case measure => simp [RowKit.intOf]; omega
          · obtain rfl : j = nx := by omega
            rename World => we
            have hin : LL .i8 (fun b => wd.heap.size ≤ b ∧ b < we.heap.size) we (.slice oo j oc) L := by
              have hu := HA.out.2.1
              rw [List.take_of_length_le (by rw [HNX.out]; exact Nat.le_refl _)] at hu
              exact ll_of_own HA.out.1 (hu.mono (fun b hb => ⟨hb.1, hb.2.1⟩)) (by rw [HNX.out]; omega)
            have HFe : Hid (Fresh wd we) := HA.out.2.2
            have HFce : Hid (Fresh wc we) := HF6.out.trans HFe.out (fun _ _ e => e)
            have HIn : Hid (∀ W, Fresh we W → LL .i8 (fun b => wd.heap.size ≤ b ∧ b < we.heap.size) W (.slice oo j oc) L) := fun W hW => hin.fresh hW
            have HQ : Hid _ := HK.out we HFce.out
            have H1 : Hid (Unit → _) := fun (_ : Unit) => Rows_any _ _ _ _ _ _ L cs ss size first we hin HQ.out.2.1 HQ.out.2.2 HI.out.1 HI.out.2.1 eF lF HEF.out.1 HEF.out.2
            obtain ⟨c1, c2, c3, c4⟩ := HP2.out we HQ.out.1
            clear HA hin HQ HC
            go_wp2_with fail
            refine (H1.out ()).mono ?_
            rintro e w7 ⟨I, E7, R, v7, rfl, hI, hL7, hF7⟩
            have HF7 : Hid (Fresh we w7) := hF7
            have HL7 : Hid (LL .i8 (fun b => we.heap.size ≤ b ∧ b < w7.heap.size) w7 v7 R) := hL7
            have HI7 : Hid (RrIs j eF lF I E7 R) := by show RrIs _ _ _ _ _ _; rw [← HNX.out]; exact hI
            have hc7 : Fresh W0 w7 := (HK.out w7 (HFce.out.trans hF7 (fun _ _ e => e))).1
            have HQ : Hid _ := HR.out w7 hc7
            have H2 : Hid (Unit → _) := fun (_ : Unit) => refRows_any _ _ _ _ _ _ L cs ss size first w7 HQ.out.1 HQ.out.2.1 HQ.out.2.2 HI.out.1 HI.out.2.1 eF lF HEF.out.1 HEF.out.2
            rw [HNX.out] at H2
            clear c1 c2 c3 c4
            obtain ⟨⟨m1, m2⟩, _⟩ := HP.out w7 hc7
            obtain ⟨c1, c2, c3, c4⟩ := HP2.out w7 hc7
            clear H1 hI hL7 hF7 hc7 HQ
            go_wp2_with fail
            refine (H2.out ()).mono ?_
            rintro e w8 ⟨I8, E8, R8, v8, rfl, hI8, hL8, hF8⟩
            obtain ⟨e1, e2, e3⟩ := RrIs.unique HI7.out hI8
            subst e1
            subst e2
            subst e3
            have hc8 : Fresh wc w8 := HFce.out.trans (HF7.out.trans hF8 (fun _ _ e => e)) (fun _ _ e => e)
            have HF8 : Hid (Fresh we w8) := HF7.out.trans hF8 (fun _ _ e => e)
            have HL8 : Hid (∀ W, Fresh w8 W → LL .i8 (fun b => we.heap.size ≤ b ∧ b < w7.heap.size) W v7 R ∧ LL .i8 (fun b => w7.heap.size ≤ b ∧ b < w8.heap.size) W v8 R) := fun W hW => ⟨(HL7.out.fresh hF8).fresh hW, hL8.fresh hW⟩
            have hR8 : R.length ≤ 140737488351232 := by have := HL7.out.many; omega
            obtain ⟨l7, k7, q7, _⟩ := HL7.out.shape
            obtain ⟨l8, k8, q8, _⟩ := hL8.shape
            have HQ : Hid _ := And.intro (HK.out w8 hc8) (HR.out w8 (HK.out w8 hc8).1)
            have H3 : Hid (Unit → _) := fun (_ : Unit) => same_any _ _ _ _ cs w8 HQ.out.1.2.1 HQ.out.2.2.1
            clear c1 c2 c3 c4 m1 m2
            obtain ⟨⟨m1, m2⟩, _⟩ := HP.out w8 HQ.out.1.1
            clear H2 hI8 hL8 hF8 HQ HL7 HI7 HF7
            subst q7
            subst q8
            go_wp2_with fail
            refine (H3.out ()).mono ?_
            rintro e w9 ⟨rfl, n9, hw9⟩
            have HF9 : Hid (Fresh w8 w9) := by show Fresh _ _; rw [hw9]; exact kept_drewN _ _ _
            have hc9 : Fresh wc w9 := hc8.trans HF9.out (fun _ _ e => e)
            have HQ : Hid _ := And.intro (HK.out w9 hc9) (HR.out w9 (HK.out w9 hc9).1)
            have H4 : Hid (Unit → _) := fun (_ : Unit) => same_any _ _ _ _ ss w9 HQ.out.1.2.2 HQ.out.2.2.2
            clear m1 m2
            obtain ⟨⟨m1, m2⟩, _⟩ := HP.out w9 HQ.out.1.1
            clear hw9 H3 HQ hc9
            go_wp2_with fail
            refine (H4.out ()).mono ?_
            rintro e wa ⟨rfl, na, hwa⟩
            have hFa : Fresh w8 wa := by rw [hwa]; exact HF9.out.drewN na
            have HFwa : Hid (Fresh w wa) := HF0.out.trans (HFc.out.trans (hc8.trans hFa (fun _ _ e => e)) (fun _ _ e => e)) (fun _ _ e => e)
            have HFda : Hid (Fresh we wa ∧ Fresh wd wa) := ⟨HF8.out.trans hFa (fun _ _ e => e), HFe.out.trans (HF8.out.trans hFa (fun _ _ e => e)) (fun _ _ e => e)⟩
            have HCa : Hid _ := (HL8.out wa hFa).1.stay
            have HCb : Hid _ := (HL8.out wa hFa).2.stay
            have HCc : Hid _ := (HIn.out wa HFda.out.1).stay
            have HCd : Hid _ := (HRL.out wa HFda.out.2).stay
            clear hwa H4 HF9 hc8 hFa m1 m2 HK HR HP HP2 HL8 HF8 HIn HRL HFda
            generalize R.length = nr at *
            go_wp2
            go_loopw [153] (fun i wr => ∃ q : Nat, q ≤ nr ∧ i = zV q ∧ Hid (∃ d, wr = wa.drewN d)) (fun i _ => nr - (RowKit.intOf i).toNat)
            case atStart => exact ⟨0, Nat.zero_le _, rfl, 0, rfl⟩
            case round =>
              obtain ⟨q, hq, rfl, HWr⟩ := hrel
              have hFr : Fresh wa wr := by obtain ⟨d, h⟩ := HWr.out; rw [h]; exact kept_drewN _ _ _
              by_cases hlq : q < nr
              · obtain ⟨ab, aoff, rfl, h1⟩ := HCa.out (by omega)
                obtain ⟨bb, boff, rfl, h2⟩ := HCb.out (by omega)
                obtain ⟨a1, y1, x1, g1, r1⟩ := h1 wr hFr q hlq
                obtain ⟨a2, y2, x2, g2, r2⟩ := h2 wr hFr q hlq
                have HS : Hid (∀ m, Calls Tryd.prog 7 #[.slice a1 y1 x1, .slice a2 y2 x2] (wr.drewN m) fun e w' => e = .returned (.bool true) ∧ ∃ n, w' = (wr.drewN m).drewN n) := fun m => same_any _ _ _ _ _ _ (r1.fresh (kept_drewN _ _ _)) (r2.fresh (kept_drewN _ _ _))
                have hlq' : (q : Int) < (nr : Int) := by omega
                clear h1 h2 HCa HCb HCc HCd r1 r2 hFr
                go_wp2_with fail
                go_quiet ((go_at_call 7; exact Calls.quiet_of (HS.out _)))
                go_wp2
                go_roundw
                case rel =>
                  refine ⟨q + 1, hlq, by go_num, ?_⟩
                  obtain ⟨d, h⟩ := HWr.out
                  exact ⟨d + nq, by rw [h, World.drewN_drewN]⟩
                case measure => simp [RowKit.intOf]; omega
              · obtain rfl : q = nr := by omega
                rename World => wf
                have HFf : Hid (Fresh wa wf) := hFr
                clear HCa HCb hFr HWr
                go_wp2
                go_loopw [169] (fun i wr => ∃ y : Nat, y ≤ j ∧ i = zV y ∧ Hid (∃ d, wr = wf.drewN d)) (fun i _ => j - (RowKit.intOf i).toNat)
                case atStart => exact ⟨0, Nat.zero_le _, rfl, 0, rfl⟩
                case round =>
                  obtain ⟨y, hy, rfl, HWr⟩ := hrel
                  have hFr : Fresh wa wr := by obtain ⟨d, h⟩ := HWr.out; rw [h]; exact HFf.out.drewN d
                  by_cases hly : y < j
                  · obtain ⟨ab, aoff, rfl, h1⟩ := HCc.out (by omega)
                    obtain ⟨bb, boff, rfl, h2⟩ := HCd.out (by omega)
                    obtain ⟨a1, y1, x1, g1, r1⟩ := h1 wr hFr y hly
                    obtain ⟨a2, y2, x2, g2, r2⟩ := h2 wr hFr y hly
                    have HS : Hid (∀ m, Calls Tryd.prog 7 #[.slice a1 y1 x1, .slice a2 y2 x2] (wr.drewN m) fun e w' => e = .returned (.bool true) ∧ ∃ n, w' = (wr.drewN m).drewN n) := fun m => same_any _ _ _ _ _ _ (r1.fresh (kept_drewN _ _ _)) (r2.fresh (kept_drewN _ _ _))
                    have hly' : (y : Int) < (j : Int) := by omega
                    clear h1 h2 HCc HCd r1 r2 hFr
                    go_wp2_with fail
                    go_quiet ((go_at_call 7; exact Calls.quiet_of (HS.out _)))
                    go_wp2
                    go_roundw
                    case rel =>
                      refine ⟨y + 1, hly, by go_num, ?_⟩
                      obtain ⟨d, h⟩ := HWr.out
                      exact ⟨d + nq, by rw [h, World.drewN_drewN]⟩
                    case measure => simp [RowKit.intOf]; omega
                  · have HZ : Hid (Fresh w wr) := HFwa.out.trans hFr (fun _ _ e => e)
                    clear HCc HCd hFr
                    go_wp2
                    go_ret
                    exact ⟨rfl, HZ.out⟩

set_option maxRecDepth 100000 in
theorem contract (H : Type) (enc : TypeId × Value → H) (W : World) (base : Nat) (args : Array Value) (ds gs : List (DataW H)) (before : List MemPlace)
    (hval : ∀ (j : Nat) t v, Tryd.f3.params[j]? = some t → args[j]? = some v → Value.okWide Tryd.prog W .any base t v)
    (hW : DataW.Whole enc Tryd.prog Tryd.f3.params.toList Rows.ropeRowsSpec.vars false W args.toList ds gs before) 
    (hsz : (DataW.weightsEach Tryd.prog (Tryd.f3.params.toList ++ []) (ds ++ gs)).all (· ≤ reachBytes) = true) (hL : laidMetH Tryd.prog Rows.ropeRowsRow.laid W) :
    Calls Tryd.prog 3 args W fun e W' => ∃ v, e = .returned v ∧ Rows.ropeRowsSpec.post enc Tryd.prog Tryd.f3 false true false false W args v W' := by
  have hW' := hW
  obtain ⟨p, q, hA0, hV, rfl, hfz, hnd⟩ := hW
  have hA : DataW.TrodAll enc Tryd.prog W 0 (fun _ => true) true Tryd.f3.params.toList args.toList ds p := hA0
  rw [Tryd.params3] at hA hval hsz
  obtain ⟨rfl, rfl⟩ := trodVars_none hV
  obtain ⟨v0, v1, v2, d0, d1, d2, p0, p1, p2, rfl, rfl, rfl, h0, h1, h2⟩ := trodAll_three hA
  obtain ⟨ao, ln, cap, rfl⟩ := okWide_slice Tryd.underlying22 (hval 0 22 v0 rfl rfl)
  obtain ⟨f0, hf0⟩ := h0
  obtain ⟨L, hL0⟩ := ll_ofK ty8 tyL8 (by kernel_rfl) (x := (d0, _)) hf0 (fun es sp e => by
    have e' : d0 = .slice es sp := e
    subst e'
    have := sized_slice hsz (j := 0) (t := 22) (e := 23) rfl rfl Tryd.underlying22
    rw [show Tryd.prog.bytesOf 23 = 24 by kernel_rfl] at this
    simp only [reachBytes] at this
    refine ⟨by omega, fun e' sp' hm => ?_⟩
    have := sized_inner hsz (j := 0) (t := 22) (e := 23) (q := 35) rfl rfl Tryd.underlying22 Tryd.underlying23 hm
    rw [Tryd.b8] at this
    simp only [reachBytes] at this
    simp only [kb]
    omega)
  obtain ⟨cv, sv, cs, ss, rfl, hc, hs⟩ := angles_of (hval 1 25 v1 rfl rfl) h1 hsz (j := 1) rfl rfl
  obtain ⟨a0, a1, a2, a3, y0, y1, y2, y3, n, rfl, rfl, rfl, q0, q1, q2, q3⟩ := open_agg4 Tryd.underlying27 (by kernel_rfl) (by kernel_rfl) (hval 2 27 v2 rfl rfl) h2
  obtain ⟨x0, e0, _, w0⟩ := DataW.trod_int Tryd.underlying3 q0
  obtain ⟨x1, e1, _, w1⟩ := DataW.trod_int Tryd.underlying3 q1
  obtain ⟨x2, e2, _, w2⟩ := DataW.trod_int Tryd.underlying3 q2
  obtain ⟨x3, e3, _, w3⟩ := DataW.trod_int Tryd.underlying3 q3
  simp only [List.cons.injEq, and_true] at e0 e1 e2 e3
  subst e0 e1 e2 e3
  refine (walk _ cv sv L cs ss x0 x1 x2 x3 W (sin_of_laid hL) hL0 hc hs (i64_of w0) (i64_of w1) (i64_of w3)).mono fun e W' ⟨he, hk⟩ => ?_
  subst he
  exact ⟨_, rfl, post_law rfl (by kernel_rfl) (by kernel_rfl) hW' rfl hk⟩

set_option maxRecDepth 100000 in
theorem laid_met (os : Os) : laidMet Tryd.prog Rows.ropeRowsRow.laid ((layIn (World.holding Tryd.prog os ⟨#[], #[], []⟩)).forCall (fun _ _ => 0) ⟨#[], #[.slice none 0 0, .agg #[.slice none 0 0, .slice none 0 0], .agg #[.int .i64 0, .int .i64 0, .int .i64 0, .int .i64 0]], []⟩).memory :=
  laidMet_of_run' 8 (by kernel_rfl) (by kernel_rfl)
set_option maxRecDepth 100000 in
theorem reads (os : Os) {H : Type} (enc : TypeId × Value → H) : ∃ places, DataW.whole enc Tryd.prog ((layIn (World.holding Tryd.prog os ⟨#[], #[], []⟩)).forCall (fun _ _ => 0) ⟨#[], #[.slice none 0 0, .agg #[.slice none 0 0, .slice none 0 0], .agg #[.int .i64 0, .int .i64 0, .int .i64 0, .int .i64 0]], []⟩).memory Tryd.f3.params.toList Rows.ropeRowsSpec.vars false (#[.slice none 0 0, .agg #[.slice none 0 0, .slice none 0 0], .agg #[.int .i64 0, .int .i64 0, .int .i64 0, .int .i64 0]] : Array Value).toList 8 = some ([.nil, .agg [.nil, .nil], .agg [.lit (.int .i64 0), .lit (.int .i64 0), .lit (.int .i64 0), .lit (.int .i64 0)]], [], places) :=
  ⟨[], by kernel_rfl⟩

set_option maxRecDepth 100000 in
theorem lifted (os : Os) (started : os.Started) (H : Type) (enc : TypeId × Value → H) (F : Stop.Interp) :
    ReturnsInHanded {} Tryd.checked os 3 .any ((OpenSpec.ofChange Rows.ropeRowsSpec).preRow enc Tryd.prog Tryd.f3 Rows.ropeRowsRow.domain false Rows.ropeRowsRow.laid) (((OpenSpec.ofChange Rows.ropeRowsSpec).at F).post enc Tryd.prog Tryd.f3 false true false false) := by
  obtain ⟨places, hx⟩ := reads os enc
  refine returnsInHanded_of_row (C := Tryd.checked) (s := OpenSpec.ofChange Rows.ropeRowsSpec) Tryd.own started (by kernel_rfl) Tryd.func3
    (witness_row_at (enc := enc) (C := Tryd.checked) false (layIn (World.holding Tryd.prog os ⟨#[], #[], []⟩)) #[.slice none 0 0, .agg #[.slice none 0 0, .slice none 0 0], .agg #[.int .i64 0, .int .i64 0, .int .i64 0, .int .i64 0]] rfl (by kernel_rfl) (by kernel_rfl) (by kernel_rfl)
      (OpenSpec.preRow_of_cond 8 hx (by kernel_rfl) (fun k hk => by cases hk) (by kernel_rfl) (laid_met os))) ?_
  intro W base args ds gs before hval hW _ hc hsz hL _ _
  exact contract H enc W base args ds gs before hval hW hsz hL

theorem said : Rows.RopeRowsSaid :=
  OpenClaim.holds_of_cond 3 Tryd.f3 rfl rfl rfl rfl rfl rfl rfl ⟨rfl, rfl, rfl, rfl, rfl⟩ rfl rfl rfl rfl rfl (by kernel_rfl) Tryd.func3 (by kernel_rfl)
    (of_decide_eq_true (by kernel_rfl)) (by unfold Func.isWrapper; first | (rw [if_pos (by decide +kernel)]; kernel_rfl) | (rw [if_neg (by decide +kernel)]; exact ⟨rfl, rfl⟩))
    (fun os started H enc _ F => by rw [OpenClaim.pre_eq_preRow]; exact lifted os started H enc F)

theorem plain (f : FuncId) (fn : Func) (hf : Tryd.pinned.checked.prog.funcNamed Rows.ropeRowsRow.func = some f) (hfn : Tryd.pinned.checked.prog.funcs[f]? = some fn) :
    false = Tryd.pinned.checked.prog.looks [] ∧ ∀ (j : Nat) t, fn.params[j]? = some t → Tryd.pinned.checked.prog.wantsStandIn t = false := by
  obtain rfl : f = 3 := Option.some.inj ((show Tryd.prog.funcNamed Rows.ropeRowsRow.func = some 3 by kernel_rfl).symm.trans hf) |>.symm
  obtain rfl : fn = Tryd.f3 := (Option.some.inj (Tryd.func3.symm.trans hfn)).symm
  refine ⟨by kernel_rfl, fun j t ht => ?_⟩
  have hall : (Tryd.f3.params.toList.all fun u => !Tryd.prog.wantsStandIn u) = true := by kernel_rfl
  exact (show Tryd.prog.wantsStandIn t = false by simpa using List.all_eq_true.1 hall t (Array.mem_toList_iff.2 (Array.mem_of_getElem? ht)))

theorem card : Rows.RopeRowsCardSaid :=
  Claim7.holds_tied_plain_at .later [] _ _ _ _ said (fun _ h => by cases h) (by kernel_rfl) (fun _ h => by cases h) ropeRows_row_tie rfl ⟨rfl, rfl⟩ (by kernel_rfl) rfl plain (by kernel_rfl)

end Go.Proofs.YtkemaofclahaiabDoor.RRows
namespace Go.Proofs.YtkemaofclahaiabDoor
theorem ropeRows_card : Rows.RopeRowsCardSaid := RRows.card
end Go.Proofs.YtkemaofclahaiabDoor
