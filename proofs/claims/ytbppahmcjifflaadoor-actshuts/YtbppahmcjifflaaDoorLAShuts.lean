/-
  For every two lists and every middle the statement ActShuts answers true: awake does; where the bend is 0 nothing goes through; places know nothing of one another; its card, tied to the program's text.
-/
import Derived.Test.YtbppahmcjifflaaDoorAck
import Derived.Test.YtbppahmcjifflaaDoorAch
import Derived.Test.YtbppahmcjifflaaDoorAcm
import Derived.Test.YtbppahmcjifflaaDoorAcS
import Derived.Test.YtbppahmcjifflaaDoorCutR
namespace Go.Proofs.YtbppahmcjifflaaDoor.AShuts
open Go.ChangeShapes Go.WideShapes Go.ChangeAt Go.RowKit Go.Lib Go.Maps

theorem zl_row (n : Nat) (w : World) (hn : n ≤ 1048576) : Rk .i8 (fun _ => True) (w.alloc (.cells ((List.replicate n (0 : Int)).map (Value.int .i8)).toArray 30)) (.slice (some ⟨w.heap.size, 0, none⟩) n n) (zl n) := by
  have h := own_made .i8 30 w w.heap.size (Nat.le_refl _) n n (Nat.le_refl _) (by omega)
  have hl : (zl n).length = n := by simp [zl]
  rw [← hl] at h
  rw [hl] at h
  exact (rk_of_own (zs := zl n) h (by rw [hl]; simp [kb]; omega) (fun z hz => by rw [(List.mem_replicate.1 hz).2]; exact fit0 _)).mono (fun _ _ => trivial)

set_option maxHeartbeats 4000000 in
set_option maxRecDepth 100000 in
theorem walk (gv0 uv0 v : Value) (g u : List Int) (m : Mid) (w : World) (hB : Bend w) (hg : Rk .i8 (fun x => x < w.heap.size) w gv0 g) (hu : Rk .i8 (fun x => x < w.heap.size) w uv0 u) (hm : MidV (fun x => x < w.heap.size) w v m) :
    Calls Tryd.prog 7 #[gv0, uv0, v] w fun e w' => e = .returned (.bool true) ∧ Fresh w w' := by
  have hm0 := hm
  obtain ⟨gv, uv, dv, rfl, hgr, hur, hdr, hi1, hi2, hi3⟩ := hm
  obtain ⟨W0, hW0⟩ : ∃ W0, w.alloc (.cells #[gv, uv, dv, zV m.gs, zV m.us, zV m.ds] 36) = W0 := ⟨_, rfl⟩
  have hF0 : Fresh w W0 := by rw [← hW0]; exact (Kept.refl _ w).alloc _
  have hsx : Six W0 w.heap.size gv uv dv (zV m.gs) (zV m.us) (zV m.ds) := by
    rw [← hW0]
    exact six_of (heap_alloc_new w _)
  have HS : Hid (∀ W, Fresh W0 W → Six W w.heap.size gv uv dv (zV m.gs) (zV m.us) (zV m.ds)) := fun W hF => hsx.fresh hF
  have HM : Hid (∀ W, Fresh W0 W → Bend W ∧ MidV (fun x => x < w.heap.size) W (.agg #[gv, uv, dv, zV m.gs, zV m.us, zV m.ds]) m ∧ Rk .i8 (fun x => x < w.heap.size) W gv0 g ∧ Rk .i8 (fun x => x < w.heap.size) W uv0 u) := fun W hF => by
    have := hF0.trans hF (fun _ _ e => e)
    exact ⟨hB.fresh this, hm0.fresh this, hg.fresh this, hu.fresh this⟩
  have HAW : Hid (Unit → _) := fun (_ : Unit) => awake_any W0 (hB.fresh hF0)
  have HF0 : Hid (Fresh w W0) := hF0
  have HQ : Hid (∀ n, (mdL m (zl n) g).length * kb .i64 ≤ 140737488351232 ∧ ∀ z ∈ mdL m (zl n) g, Fit .i64 z) := fun n => ⟨by have := mdL_len m (zl n) g; simp [kb]; omega, mdL_i64 hm0.down⟩
  have HQ2 : Hid (∀ b g' u', (gaL b g' u').length * kb .i8 ≤ 140737488351232 ∧ ∀ z ∈ gaL b g' u', Fit .i8 z) := fun b g' u' => ⟨by have := gaL_len b g' u'; simp [kb]; omega, gaL_c8 _ _ _⟩
  have hmg := hg.many
  have hmu := hu.many
  obtain ⟨go', gc', rfl, _⟩ := hgr.shape
  obtain ⟨uo', uc', rfl, _⟩ := hur.shape
  obtain ⟨do', dc', rfl, _⟩ := hdr.shape
  obtain ⟨bo', bc', rfl, _⟩ := hg.shape
  obtain ⟨ho', hc', rfl, _⟩ := hu.shape
  clear hgr hur hdr hg hu hm0 hsx hF0 hB hi1 hi2 hi3
  go_enter Tryd.func7, Tryd.ntmps7
  go_wp2_with fail
  refine (HAW.out ()).mono ?_
  rintro e w1 ⟨rfl, hF1⟩
  clear HAW hW0
  obtain ⟨N, hN⟩ : ∃ N : Nat, N = 256 := ⟨_, rfl⟩
  have hN' : ((N : Nat) : Int) = 256 := by omega
  have hmk := run_mk ty8 N N (Nat.le_refl _) (by simp [kb]; omega) w1
  rw [hN'] at hmk
  have hz := zl_row N w1 (by omega)
  have hF2 : Fresh w1 (w1.alloc (.cells ((List.replicate N (0 : Int)).map (Value.int .i8)).toArray 30)) := (Kept.refl _ _).alloc _
  generalize w1.alloc (.cells ((List.replicate N (0 : Int)).map (Value.int .i8)).toArray 30) = W2 at *
  subst hN
  have hlz : (zl 256).length = 256 := by simp [zl]
  have HF2 : Hid (Fresh W0 W2) := hF1.trans hF2 (fun _ _ e => e)
  have HZ : Hid (∀ W, Fresh W2 W → Rk .i8 (fun _ => True) W (.slice (some ⟨w1.heap.size, 0, none⟩) 256 256) (zl 256)) := fun W hF => hz.fresh hF
  have HG : Hid (Unit → _) := fun (_ : Unit) => Gate_any _ _ _ _ _ _ (zl 256) g u W2 hz (HM.out W2 HF2.out).2.2.1 (HM.out W2 HF2.out).2.2.2
  rw [hlz] at HG
  generalize hgz : gaL (zl 256) g u = G0 at *
  clear hz hF2 hF1 hN'
  go_wp2_with fail
  refine (HG.out ()).mono ?_
  rintro e w3 hg3
  clear HG hmk
  obtain ⟨v3, rfl, hr3, hF3⟩ := hg3.row (by rw [← hgz]; exact (HQ2.out _ _ _).1) (by rw [← hgz]; exact (HQ2.out _ _ _).2)
  obtain ⟨ao3, ac3, rfl, _⟩ := hr3.shape
  have HF3 : Hid (Fresh W2 w3) := hF3
  have HFw3 : Hid (Fresh w w3) := HF0.out.trans (HF2.out.trans hF3 (fun _ _ e => e)) (fun _ _ e => e)
  have HR3 : Hid (∀ W, Fresh w3 W → _) := fun W hF => hr3.fresh (W' := W) hF
  clear hg3 hr3 hF3
  rcases ga_cases 256 g.length u.length with ⟨h1, _⟩ | ⟨_, h3, h2⟩ | ⟨_, h3, h4, h2⟩ | ⟨_, h3, h4, h5, h2⟩ | ⟨_, h3, h5, h2⟩
  · exact absurd rfl h1
  · rw [h2]
    have hG0 : G0.length = 0 := by rw [← hgz, gaL_bad (by rw [hlz, h2]; decide)]; rfl
    rw [hG0]
    have h3' : (1048576 : Int) < (g.length : Int) := by omega
    clear HR3 hgz h2 HQ HQ2 HM HS HZ
    go_wp2
    go_ret
    exact ⟨rfl, HFw3.out⟩
  · rw [h2]
    have hG0 : G0.length = 0 := by rw [← hgz, gaL_bad (by rw [hlz, h2]; decide)]; rfl
    rw [hG0]
    have h3' : ¬ (1048576 : Int) < (g.length : Int) := by omega
    have h4' : (1048576 : Int) < (u.length : Int) := by omega
    clear HR3 hgz h2 HQ HQ2 HM HS HZ
    go_wp2
    go_ret
    exact ⟨rfl, HFw3.out⟩
  · rw [h2]
    have hG0 : G0.length = 0 := by rw [← hgz, gaL_bad (by rw [hlz, h2]; decide)]; rfl
    rw [hG0]
    have h3' : ¬ (1048576 : Int) < (g.length : Int) := by omega
    have h4' : ¬ (1048576 : Int) < (u.length : Int) := by omega
    have h5' : ¬ (g.length : Int) = (u.length : Int) := by omega
    clear HR3 hgz h2 HQ HQ2 HM HS HZ
    go_wp2
    go_ret
    exact ⟨rfl, HFw3.out⟩
  · rw [h2]
    have hG0 : G0.length = g.length := by rw [← hgz, gaL_ok (by rw [hlz, h2]), mkL_len]
    have HG0 : Hid (∀ i, G0.getD i 0 = 0) := fun i => by rw [← hgz]; exact getD_zero gaL_zero i
    rw [hG0] at HR3 ⊢
    have HT : Hid (Unit → _) := fun (_ : Unit) => Table_any 2 w3 (HM.out w3 (HF2.out.trans HF3.out (fun _ _ e => e))).1 ⟨by omega, by omega⟩
    have hL2 : (tbL 2).length = 256 := by rw [tbL_ok ⟨by omega, by omega⟩, mkL_len]
    have hT8 := tbL_c8 2
    rw [tbE_ok ⟨by omega, by omega⟩] at HT
    rw [← h5] at hmu ⊢
    clear hgz h2 hG0
    have h3' : ¬ (1048576 : Int) < (g.length : Int) := by omega
    generalize hST : tbL 2 = ST at *
    clear hST
    obtain ⟨n, hn⟩ : ∃ n, g.length = n := ⟨_, rfl⟩
    have HN : Hid (g.length = n ∧ u.length = n) := ⟨hn, by omega⟩
    rw [hn] at HM HR3 h3 h3' hmg hmu ⊢
    rw [show u.length = n by omega] at HM
    clear hn h5
    go_wp2_with fail
    refine (HT.out ()).mono ?_
    rintro e w4 hg4
    obtain ⟨v4, rfl, hr4, hF4⟩ := hg4.row (by rw [hL2]; simp [kb]) hT8
    clear hg4 HT
    obtain ⟨ao4, ac4, rfl, _⟩ := hr4.shape
    rw [hL2] at hr4 ⊢
    have HF4 : Hid (Fresh W0 w4) := (HF2.out.trans HF3.out (fun _ _ e => e)).trans hF4 (fun _ _ e => e)
    have HA : Hid (Unit → _) := fun (_ : Unit) => Gate_any _ _ _ _ _ _ ST g u w4 hr4 (HM.out w4 HF4.out).2.2.1 (HM.out w4 HF4.out).2.2.2
    rw [hL2, HN.out.1, HN.out.2, show gaE 256 n n = 0 by unfold gaE; rw [if_neg (by omega), if_neg (by omega), if_neg (by omega)]] at HA
    have hlA : (gaL ST g u).length = n := by rw [gaL_ok (by rw [hL2, HN.out.1, HN.out.2]; unfold gaE; rw [if_neg (by omega), if_neg (by omega), if_neg (by omega)]), mkL_len, HN.out.1]
    have HAg : Hid (∀ i, i < n → (gaL ST g u).getD i 0 = gaF ST g u i) := fun i hi => by rw [gaL_ok (by rw [hL2, HN.out.1, HN.out.2]; unfold gaE; rw [if_neg (by omega), if_neg (by omega), if_neg (by omega)]), HN.out.1, mkL_get hi]
    have HR4 : Hid (∀ W, Fresh w4 W → Rk .i8 _ W (.slice ao4 256 ac4) ST) := fun W hF => hr4.fresh hF
    have HR34 : Hid (∀ W, Fresh w4 W → _) := fun W hF => HR3.out W (hF4.trans hF (fun _ _ e => e))
    have HZ4 : Hid (∀ W, Fresh w4 W → _) := fun W hF => HZ.out W ((HF3.out.trans hF4 (fun _ _ e => e)).trans hF (fun _ _ e => e))
    clear hr4 hF4 HR3 HZ
    go_wp2_with fail
    refine (HA.out ()).mono ?_
    rintro e w5 hg5
    obtain ⟨v5, rfl, hr5, hF5⟩ := hg5.row (HQ2.out _ _ _).1 (HQ2.out _ _ _).2
    clear hg5 HA
    obtain ⟨ao5, ac5, rfl, _⟩ := hr5.shape
    rw [hlA] at hr5 ⊢
    have HF5 : Hid (Fresh W0 w5) := HF4.out.trans hF5 (fun _ _ e => e)
    have HZ5 : Hid (∀ W, Fresh w5 W → _) := fun W hF => HZ4.out W (hF5.trans hF (fun _ _ e => e))
    have HM5 : Hid (∀ W, Fresh w5 W → _) := fun W hF => HM.out W (HF5.out.trans hF (fun _ _ e => e))
    have HS5 : Hid (∀ W, Fresh w5 W → _) := fun W hF => HS.out W (HF5.out.trans hF (fun _ _ e => e))
    have HR5 : Hid (∀ W, Fresh w5 W → Rk .i8 _ W _ G0 ∧ Rk .i8 _ W _ (gaL ST g u) ∧ Rk .i8 _ W (.slice ao4 256 ac4) ST) := fun W hF => ⟨HR34.out W (hF5.trans hF (fun _ _ e => e)), hr5.fresh hF, HR4.out W (hF5.trans hF (fun _ _ e => e))⟩
    have HFw5 : Hid (Fresh w w5) := HF0.out.trans HF5.out (fun _ _ e => e)
    clear hr5 hF5 HR4 HR34 HF4 HF3 HF2 HFw3 HM HS HF0 HF5 HZ4
    go_wp2
    go_loopw [90] (fun iv wr => ∃ j : Nat, j ≤ n ∧ iv = zV j ∧ Hid (Fresh w5 wr)) (fun iv _ => n - (RowKit.intOf iv).toNat)
    case atStart => exact ⟨0, Nat.zero_le _, rfl, Kept.refl _ _⟩
    case round =>
      obtain ⟨j, hj, rfl, HX⟩ := hrel
      by_cases hlt : j < n
      · have hlt' : (j : Int) < (n : Int) := by omega
        obtain ⟨_, _, hgw, huw⟩ := HM5.out wr HX.out
        obtain ⟨b1, o1, rfl, _, k1, _⟩ := hgw.cells.2.2.2 (by omega)
        obtain ⟨b2, o2, rfl, _, k2, _⟩ := huw.cells.2.2.2 (by omega)
        have cg1 := hgw.cells.2.1
        have cu1 := huw.cells.2.1
        have s1 := fun W => run_cut8 b1 o1 n bc' j 1 (Nat.le_refl _) (by omega) W
        have s2 := fun W => run_cut8 b2 o2 n hc' j 1 (Nat.le_refl _) (by omega) W
        rw [show ((1 : Nat) : Int) = 1 from rfl] at s1 s2
        have r1 : IntKind.i64.wrap ((j : Int) + 1) = (j : Int) + 1 := wrapId (by omega) (by omega)
        have HOne : Hid (∀ W, Fresh w5 W → Calls Tryd.prog 13 #[.slice ao4 256 ac4, .slice (some ⟨b1, o1 + j, none⟩) 1 (bc' - j), .slice (some ⟨b2, o2 + j, none⟩) 1 (hc' - j)] W fun e w' => ∃ q c, e = .returned (.tuple #[.slice (some ⟨q, 0, none⟩) 1 c, zV 0]) ∧ w'.cell? ⟨q, 0, none⟩ = some (.int .i8 (gaF ST g u j)) ∧ Fresh W w') := fun W hF => by
          obtain ⟨_, _, hgw, huw⟩ := HM5.out W hF
          have hg1 := hgw.cut j 1 (by omega)
          have hu1 := huw.cut j 1 (by omega)
          rw [show (g.drop j).take 1 = [g.getD j 0] from cut_one (by rw [HN.out.1]; exact hlt)] at hg1
          rw [show (u.drop j).take 1 = [u.getD j 0] from cut_one (by rw [HN.out.2]; exact hlt)] at hu1
          refine (Gate_any _ _ _ _ _ _ ST _ _ W (HR5.out W hF).2.2 hg1 hu1).mono ?_
          rintro e w' ⟨v', he, ho, hF'⟩
          rw [gaL_one hL2] at ho
          rw [hL2] at he
          obtain ⟨q, c, rfl⟩ : ∃ q c, v' = .slice (some ⟨q, 0, none⟩) 1 c := by
            rcases ho.2 with ⟨_, e⟩ | ⟨q', c', cur, hv, _⟩
            · simp at e
            · exact ⟨q', c', hv⟩
          exact ⟨q, c, he, ho.cellAt 0 (by decide), hF'⟩
        clear hgw huw k1 k2
        go_wp2_with fail
        go_region_held3 (fun X => Fresh w5 X) (first | exact HX.out.drew | assumption) (first | (go_at_call 13; have hFx : Fresh w5 _ := (by assumption); (with_reducible refine (HOne.out _ hFx).mono ?_); rintro e w' ⟨q, c, rfl, cq, hFq⟩; have hS' : Fresh w5 w' := hFx.trans hFq (fun _ _ e => e)))
        have hS5 := hS'
        obtain ⟨hrA, hrB, _⟩ := HR5.out w' hS5
        obtain ⟨b3, o3, rfl, _, _, c3⟩ := hrA.cells.2.2.2 (by omega)
        obtain ⟨b5, o5, rfl, _, _, c5⟩ := hrB.cells.2.2.2 (by omega)
        have d3 := c3 j hlt
        have d5 := c5 j hlt
        rw [HG0.out j] at d3
        rw [HAg.out j hlt] at d5
        have HFr : Hid (∀ d, Fresh w5 (w'.drewN d)) := fun d => hS5.drewN d
        clear hrA hrB c3 c5 s1 s2 r1 HOne hS5
        generalize gaF ST g u j = Z at *
        go_wp2_with fail
        go_quiet (fail)
        go_wp2
        go_roundw
        case rel => exact ⟨j + 1, hlt, by go_num, HFr.out _⟩
        case measure => simp [RowKit.intOf]; omega
      · obtain rfl : j = n := by omega
        obtain ⟨q0, q1, q2, q3, q4, q5, _⟩ := HS5.out wr HX.out
        have HCp : Hid (Unit → _) := fun (_ : Unit) => copied_any _ _ m wr (HM5.out wr HX.out).2.1
        have HXw : Hid (Fresh w5 wr) := HX.out
        have hlz2 := hlz
        go_wp2_with fail
        refine (HCp.out ()).mono ?_
        rintro e w6 ⟨v6, rfl, hm6, hF6⟩
        clear q0 q1 q2 q3 q4 q5 HCp
        have hF6' : Fresh w5 w6 := HXw.out.trans hF6 (fun _ _ e => e)
        have HMi : Hid (Unit → _) := fun (_ : Unit) => Middle_any _ _ _ _ _ _ m (zl 256) g w6 hm6 (HZ5.out w6 hF6') (HM5.out w6 hF6').2.2.1
        have HF6 : Hid (Fresh w5 w6) := hF6'
        obtain ⟨ga, ua, da, rfl, hga, hua, hda, _⟩ := hm6
        obtain ⟨x1, y1, rfl, _⟩ := hga.shape
        obtain ⟨x2, y2, rfl, _⟩ := hua.shape
        obtain ⟨x3, y3, rfl, _⟩ := hda.shape
        clear hF6 hF6' hga hua hda HX
        go_wp2_with fail
        refine (HMi.out ()).mono ?_
        rintro e w7 hg7
        obtain ⟨v7, rfl, hr7, hF7⟩ := hg7.row (HQ.out 256).1 (HQ.out 256).2
        clear hg7 HMi
        have hF7' : Fresh w5 w7 := HF6.out.trans hF7 (fun _ _ e => e)
        obtain ⟨q0, q1, q2, q3, q4, q5, _⟩ := HS5.out w7 hF7'
        have HPl : Hid (Unit → _) := fun (_ : Unit) => plain_any _ _ m w7 (HM5.out w7 hF7').2.1
        have HR7 : Hid (∀ W, Fresh w7 W → _) := fun W hF => hr7.fresh (W' := W) hF
        have HF7 : Hid (Fresh w5 w7) := hF7'
        clear hr7 hF7 hF7'
        go_wp2_with fail
        refine (HPl.out ()).mono ?_
        rintro e w8 ⟨v8, rfl, hm8, hF8⟩
        clear q0 q1 q2 q3 q4 q5 HPl
        have hF8' : Fresh w5 w8 := HF7.out.trans hF8 (fun _ _ e => e)
        have HRu : Hid (Unit → _) := fun (_ : Unit) => refRun_any _ _ _ _ _ _ m (zl 256) g w8 hm8 (HZ5.out w8 hF8') (HM5.out w8 hF8').2.2.1
        have HF8 : Hid (Fresh w7 w8) := hF8
        obtain ⟨gx, ux, dx, rfl, hgx, hux, hdx, _⟩ := hm8
        clear hF8 hF8' hgx hux hdx
        go_wp2_with fail
        refine (HRu.out ()).mono ?_
        rintro e w9 hg9
        obtain ⟨v9, rfl, hr9, hF9⟩ := hg9.row (HQ.out 256).1 (HQ.out 256).2
        clear hg9 HRu
        have hF79 : Fresh w7 w9 := HF8.out.trans hF9 (fun _ _ e => e)
        have hd9 := HR7.out w9 hF79
        have hlm := mdL_len m (zl 256) g
        have HD0 : Hid (∀ i, (mdL m (zl 256) g).getD i 0 = 0) := fun i => getD_zero mdL_zero i
        have HF9 : Hid (Fresh w w9) := HFw5.out.trans (HF7.out.trans hF79 (fun _ _ e => e)) (fun _ _ e => e)
        generalize mdE m (zl 256) g = E at *
        generalize mdL m (zl 256) g = D at *
        obtain ⟨x7, y7, rfl, _⟩ := hd9.shape
        obtain ⟨x9, y9, rfl, _⟩ := hr9.shape
        obtain ⟨k, hk⟩ : ∃ k, D.length = k := ⟨_, rfl⟩
        rw [hk] at hd9 hlm ⊢
        have HC : Hid (0 < k → _) := hd9.cells.2.2.2
        clear hr9 hF9 hF79 HR7 HF8 hd9 HF7 HF6 HZ5 HM5 HS5 HR5 HQ HQ2 hk HXw HAg HG0 HN
        go_wp2
        go_loop [161] (fun iv => ∃ i : Nat, i ≤ k ∧ iv = zV i) (fun iv => k - (RowKit.intOf iv).toNat)
        case atStart => exact ⟨0, Nat.zero_le _, rfl⟩
        case round =>
          obtain ⟨i, hi, rfl⟩ := hrel
          by_cases hlt2 : i < k
          · have hlt2' : (i : Int) < (k : Int) := by omega
            obtain ⟨b7, o7, rfl, _, _, c7⟩ := HC.out (by omega)
            have d7 := c7 i hlt2
            rw [HD0.out i] at d7
            clear c7 HC
            go_wp2
            go_round
            case rel => exact ⟨i + 1, hlt2, by go_num⟩
            case measure => simp [RowKit.intOf]; omega
          · obtain rfl : i = k := by omega
            clear HC
            go_wp2
            go_ret
            exact ⟨rfl, HF9.out⟩

set_option maxRecDepth 100000 in
theorem contract (H : Type) (enc : TypeId × Value → H) (W : World) (base : Nat) (args : Array Value) (ds gs : List (DataW H)) (before : List MemPlace)
    (hval : ∀ (j : Nat) t v, Tryd.f7.params[j]? = some t → args[j]? = some v → Value.okWide Tryd.prog W .any base t v)
    (hW : DataW.Whole enc Tryd.prog Tryd.f7.params.toList Rows.actShutsSpec.vars false W args.toList ds gs before) 
    (hsz : (DataW.weightsEach Tryd.prog (Tryd.f7.params.toList ++ []) (ds ++ gs)).all (· ≤ reachBytes) = true) (hL : laidMetH Tryd.prog Rows.actShutsRow.laid W) :
    Calls Tryd.prog 7 args W fun e W' => ∃ v, e = .returned v ∧ Rows.actShutsSpec.post enc Tryd.prog Tryd.f7 false true false false W args v W' := by
  have hW' := hW
  obtain ⟨p, q, hA0, hV, rfl, hfz, hnd⟩ := hW
  have hA : DataW.TrodAll enc Tryd.prog W 0 (fun _ => true) true Tryd.f7.params.toList args.toList ds p := hA0
  rw [Tryd.params7] at hA hval hsz
  obtain ⟨rfl, rfl⟩ := trodVars_none hV
  obtain ⟨v0, v1, v2, d0, d1, d2, p0, p1, p2, rfl, rfl, rfl, h0, h1, h2⟩ := trodAll_three hA
  obtain ⟨g, hg⟩ := arg8 (hval 0 23 v0 rfl rfl) h0 hsz (j := 0) rfl rfl
  obtain ⟨u, hu⟩ := arg8 (hval 1 23 v1 rfl rfl) h1 hsz (j := 1) rfl rfl
  obtain ⟨m, hm⟩ := mid_of (hval 2 36 v2 rfl rfl) h2 hsz (j := 2) rfl rfl
  refine (walk v0 v1 v2 g u m W (bend_of_laid hL) hg hu hm).mono fun e W' ⟨he, hk⟩ => ?_
  subst he
  exact ⟨_, rfl, post_law rfl (by kernel_rfl) (by kernel_rfl) hW' rfl hk⟩

set_option maxRecDepth 100000 in
theorem laid_met (os : Os) : laidMet Tryd.prog Rows.actShutsRow.laid ((layIn (World.holding Tryd.prog os ⟨#[], #[], []⟩)).forCall (fun _ _ => 0) ⟨#[], #[.slice none 0 0, .slice none 0 0, .agg #[.slice none 0 0, .slice none 0 0, .slice none 0 0, .int .i64 0, .int .i64 0, .int .i64 0]], []⟩).memory :=
  laidMet_of_run' 8 (by kernel_rfl) (by kernel_rfl)
set_option maxRecDepth 100000 in
theorem reads (os : Os) {H : Type} (enc : TypeId × Value → H) : ∃ places, DataW.whole enc Tryd.prog ((layIn (World.holding Tryd.prog os ⟨#[], #[], []⟩)).forCall (fun _ _ => 0) ⟨#[], #[.slice none 0 0, .slice none 0 0, .agg #[.slice none 0 0, .slice none 0 0, .slice none 0 0, .int .i64 0, .int .i64 0, .int .i64 0]], []⟩).memory Tryd.f7.params.toList Rows.actShutsSpec.vars false (#[.slice none 0 0, .slice none 0 0, .agg #[.slice none 0 0, .slice none 0 0, .slice none 0 0, .int .i64 0, .int .i64 0, .int .i64 0]] : Array Value).toList 8 = some ([.nil, .nil, .agg [.nil, .nil, .nil, .lit (.int .i64 0), .lit (.int .i64 0), .lit (.int .i64 0)]], [], places) :=
  ⟨[], by kernel_rfl⟩

set_option maxRecDepth 100000 in
theorem lifted (os : Os) (started : os.Started) (H : Type) (enc : TypeId × Value → H) (F : Stop.Interp) :
    ReturnsInHanded {} Tryd.checked os 7 .any ((OpenSpec.ofChange Rows.actShutsSpec).preRow enc Tryd.prog Tryd.f7 Rows.actShutsRow.domain false Rows.actShutsRow.laid) (((OpenSpec.ofChange Rows.actShutsSpec).at F).post enc Tryd.prog Tryd.f7 false true false false) := by
  obtain ⟨places, hx⟩ := reads os enc
  refine returnsInHanded_of_row (C := Tryd.checked) (s := OpenSpec.ofChange Rows.actShutsSpec) Tryd.own started (by kernel_rfl) Tryd.func7
    (witness_row_at (enc := enc) (C := Tryd.checked) false (layIn (World.holding Tryd.prog os ⟨#[], #[], []⟩)) #[.slice none 0 0, .slice none 0 0, .agg #[.slice none 0 0, .slice none 0 0, .slice none 0 0, .int .i64 0, .int .i64 0, .int .i64 0]] rfl (by kernel_rfl) (by kernel_rfl) (by kernel_rfl)
      (OpenSpec.preRow_of_cond 8 hx (by kernel_rfl) (fun k hk => by cases hk) (by kernel_rfl) (laid_met os))) ?_
  intro W base args ds gs before hval hW _ hc hsz hL _ _
  exact contract H enc W base args ds gs before hval hW hsz hL

theorem said : Rows.ActShutsSaid :=
  OpenClaim.holds_of_cond 7 Tryd.f7 rfl rfl rfl rfl rfl rfl rfl ⟨rfl, rfl, rfl, rfl, rfl⟩ rfl rfl rfl rfl rfl (by kernel_rfl) Tryd.func7 (by kernel_rfl)
    (of_decide_eq_true (by kernel_rfl)) (by unfold Func.isWrapper; first | (rw [if_pos (by decide +kernel)]; kernel_rfl) | (rw [if_neg (by decide +kernel)]; exact ⟨rfl, rfl⟩))
    (fun os started H enc _ F => by rw [OpenClaim.pre_eq_preRow]; exact lifted os started H enc F)

theorem plain (f : FuncId) (fn : Func) (hf : Tryd.pinned.checked.prog.funcNamed Rows.actShutsRow.func = some f) (hfn : Tryd.pinned.checked.prog.funcs[f]? = some fn) :
    false = Tryd.pinned.checked.prog.looks [] ∧ ∀ (j : Nat) t, fn.params[j]? = some t → Tryd.pinned.checked.prog.wantsStandIn t = false := by
  obtain rfl : f = 7 := Option.some.inj ((show Tryd.prog.funcNamed Rows.actShutsRow.func = some 7 by kernel_rfl).symm.trans hf) |>.symm
  obtain rfl : fn = Tryd.f7 := (Option.some.inj (Tryd.func7.symm.trans hfn)).symm
  refine ⟨by kernel_rfl, fun j t ht => ?_⟩
  have hall : (Tryd.f7.params.toList.all fun u => !Tryd.prog.wantsStandIn u) = true := by kernel_rfl
  exact (show Tryd.prog.wantsStandIn t = false by simpa using List.all_eq_true.1 hall t (Array.mem_toList_iff.2 (Array.mem_of_getElem? ht)))

theorem card : Rows.ActShutsCardSaid :=
  Claim7.holds_tied_plain_at .later [] _ _ _ _ said (fun _ h => by cases h) (by kernel_rfl) (fun _ h => by cases h) actShuts_row_tie rfl ⟨rfl, rfl⟩ (by kernel_rfl) rfl plain (by kernel_rfl)

end Go.Proofs.YtbppahmcjifflaaDoor.AShuts
namespace Go.Proofs.YtbppahmcjifflaaDoor
theorem actShuts_card : Rows.ActShutsCardSaid := AShuts.card
end Go.Proofs.YtbppahmcjifflaaDoor
