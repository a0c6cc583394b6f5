/-
  For every row and every list of gains the statement NormMemory answers true: awake does; Row and Rows answer what the document's Row answers, also behind all that is stored into the rows that came out and appended to them: what is done to one of them shows in no other.
-/
import Derived.Test.YtibbifklnimlcaaNoZ
import Derived.Test.YtibbifklnimlcaaNod
import Derived.Test.YtibbifklnimlcaaNoe
import Derived.Test.YtibbifklnimlcaaNof
namespace Go.Proofs.Ytibbifklnimlcaa.Memory9
open Go.ChangeShapes Go.WideShapes Go.ChangeAt Go.RowKit Go.Lib Go.Maps

theorem getD_set_at {l : List Int} {i : Nat} (h : i < l.length) (v : Int) (q : Nat) : (l.set i v).getD q 0 = if q = i then v else l.getD q 0 := by
  simp only [List.getD_eq_getElem?_getD, List.getElem?_set, h, if_true]
  split
  · rename_i e; subst e; simp
  · rename_i e; rw [if_neg (fun e' => e e'.symm)]

set_option maxHeartbeats 40000000 in
set_option maxRecDepth 100000 in
theorem walk (lv gv : Value) (zs gs : List Int) (w : World) (hl : Rk .i64 (fun b => b < w.heap.size) w lv zs) (hg : Rk .i8 (fun b => b < w.heap.size) w gv gs) :
    Calls Try.prog 8 #[lv, gv] w fun e w' => e = .returned (.bool true) ∧ Fresh w w' := by
  have HAW : Hid (∀ W : World, _) := fun (W : World) => awake_any W
  obtain ⟨t, W0, hr1, hF0, hR0⟩ := copy_of ty64 hl
  obtain ⟨u, W1, hr2, hF01, hR1⟩ := copy_of ty8 (hg.fresh hF0)
  have hF1 : Fresh w W1 := hF0.trans hF01 (fun _ _ e => e)
  have HL : Hid (∀ W, Fresh W1 W → Rk .i64 (fun b => b < w.heap.size) W lv zs ∧ Rk .i8 (fun b => b < w.heap.size) W gv gs) := fun W hF => ⟨hl.fresh (hF1.trans hF (fun _ _ e => e)), hg.fresh (hF1.trans hF (fun _ _ e => e))⟩
  have H1 : Hid (Unit → _) := fun (_ : Unit) => refRow_any _ _ _ _ _ _ W1 (hR0.fresh hF01) hR1
  have HF1 : Hid (Fresh w W1) := hF1
  have HRL : Hid ((roL zs gs).length * kb .i8 ≤ 140737488351232 ∧ (∀ z ∈ roL zs gs, Fit .i8 z) ∧ (roL zs gs).length ≤ 64) := ⟨by have := roL_len zs gs; simp only [kb]; omega, roL_fit zs gs, roL_len zs gs⟩
  obtain ⟨ao, ac, rfl, _⟩ := hl.shape
  obtain ⟨bo, bc, rfl, _⟩ := hR0.shape
  obtain ⟨co, cc, rfl, _⟩ := hg.shape
  obtain ⟨eo, ec, rfl, _⟩ := hR1.shape
  have HBad : Hid (roE zs gs ≠ 0 → roL zs gs = []) := fun h => roL_bad h
  clear hl hR1 hF1 hg hR0 hF0 hF01
  go_enter Try.func8, Try.ntmps8
  go_wp2_with (at_builtin; first | (refine Lib.wpList_append_run _ rfl _ _ _ _ rfl _ _ rfl rfl _ _ hr1 ?_; clear hr1) | (refine Lib.wpList_append_run _ rfl _ _ _ _ rfl _ _ rfl rfl _ _ hr2 ?_; clear hr2))
  refine (H1.out ()).mono ?_
  rintro e w2 hG
  obtain ⟨v2, rfl, hR2, hF2⟩ := hG.row HRL.out.1 HRL.out.2.1
  obtain ⟨wo, wc, rfl, _⟩ := hR2.shape
  have HF2 : Hid (Fresh w w2) := HF1.out.trans hF2 (fun _ _ e => e)
  have HL2 : Hid (∀ W, Fresh w2 W → (Rk .i64 (fun b => b < w.heap.size) W (.slice ao zs.length ac) zs ∧ Rk .i8 (fun b => b < w.heap.size) W (.slice co gs.length cc) gs) ∧ Rk .i8 (fun b => W1.heap.size ≤ b ∧ b < w2.heap.size) W (.slice wo (roL zs gs).length wc) (roL zs gs)) := fun W hF => ⟨HL.out W (hF2.trans hF (fun _ _ e => e)), hR2.fresh hF⟩
  have hS := MemX.start (B := w2.heap.size) (X := w2) (fun _ => roL zs gs) (Nat.le_refl _)
  have hFS : Fresh w2 (w2.alloc (.cells #[] 31)) := (Kept.refl _ w2).alloc _
  generalize hW0 : w2.alloc (.cells #[] 31) = X0 at *
  have HS : Hid (MemX w2.heap.size X0 (.slice (some ⟨w2.heap.size, 0, none⟩) 0 0) [] (fun _ => roL zs gs) [] ∧ Fresh w2 X0 ∧ ([] : List Value).length ≤ 3 * 0 ∧ (1 ≤ 0 → 0 < ([] : List Value).length)) := ⟨hS, hFS, by simp, by omega⟩
  clear H1 hG hR2 hF2 HL HF1 hS hFS
  go_wp2
  clear hW0
  go_loopw [7, 8] (fun kv iv wr => ∃ (i : Nat) (us : List Value) (kv' : Value), i ≤ 3 ∧ iv = zV i ∧ kv = kv' ∧ Hid (MemX w2.heap.size wr kv' us (fun _ => roL zs gs) [] ∧ Fresh w2 wr ∧ us.length ≤ 3 * i ∧ (1 ≤ i → 0 < us.length))) (fun _ iv _ => 3 - (RowKit.intOf iv).toNat)
  case atStart => exact ⟨0, [], _, Nat.zero_le _, rfl, rfl, HS.out⟩
  case round =>
    obtain ⟨i, us, kv', hi, rfl, rfl, HA⟩ := hrel
    clear HS
    obtain ⟨ko, kc, hkv⟩ := HA.out.1.shape
    subst hkv
    by_cases hi3 : i < 3
    · have hi3' : (i : Int) < 3 := by omega
      have H2 : Hid (Unit → _) := fun (_ : Unit) => Row_any _ _ _ _ _ _ wr (HL2.out wr HA.out.2.1).1.1 (HL2.out wr HA.out.2.1).1.2
      go_wp2_with fail
      refine (H2.out ()).mono ?_
      rintro e w3 ⟨v3, rfl, ho3, hF3⟩
      obtain ⟨o3, c3, hv3⟩ := ownsRow_shape ho3
      subst hv3
      have hM3 := HA.out.1.madeL hF3 HA.out.2.1.size (Rs.one (R8.at ho3))
      have hFw3 : Fresh w2 w3 := HA.out.2.1.trans hF3 (fun _ _ e => e)
      obtain ⟨W3, hW3⟩ : ∃ W3, w3.alloc (.cells #[.slice ao zs.length ac, .slice ao zs.length ac] 22) = W3 := ⟨_, rfl⟩
      have hF33 : Fresh w3 W3 := by rw [← hW3]; exact (Kept.refl _ w3).alloc _
      have hLL := ll_twoK (HL2.out w3 hFw3).1.1 22
      rw [hW3] at hLL
      have H3 : Hid (Unit → _) := fun (_ : Unit) => Rows_any _ _ _ _ _ _ W3 hLL (HL2.out W3 (hFw3.trans hF33 (fun _ _ e => e))).1.2
      have HM3 : Hid (MemX w2.heap.size W3 (.slice ko us.length kc) us (fun _ => roL zs gs) [R8 (.slice o3 (roL zs gs).length c3) (roL zs gs)] ∧ Fresh w2 W3 ∧ us.length ≤ 3 * i) := ⟨hM3.fresh hF33, hFw3.trans hF33 (fun _ _ e => e), HA.out.2.2.1⟩
      clear H2 ho3 hF3 hM3 hFw3 hF33 hLL HA
      go_wp2_with fail
      refine (H3.out ()).mono ?_
      rintro e w4 ⟨I, E, Rw, v4, rfl, hI, hO4, hF4⟩
      have hFw4 : Fresh w2 w4 := HM3.out.2.1.trans hF4 (fun _ _ e => e)
      clear H3 hW3
      by_cases h0 : roE zs gs = 0
      · have e4 := (ra_two hI).1 h0
        subst e4
        obtain ⟨g4, a1, c1, a2, c2, hv4, hRs⟩ := hO4.two
        subst hv4
        have hM4 := HM3.out.1.madeL hF4 HM3.out.2.1.size hRs
        have HM4 : Hid (∀ W, Fresh w4 W → MemX w2.heap.size W (.slice ko us.length kc) us (fun _ => roL zs gs) [R8 (.slice o3 (roL zs gs).length c3) (roL zs gs), R8 (.slice a1 (roL zs gs).length c1) (roL zs gs), R8 (.slice a2 (roL zs gs).length c2) (roL zs gs), KR (.slice (some ⟨g4, 0, none⟩) 2 2) [.slice a1 (roL zs gs).length c1, .slice a2 (roL zs gs).length c2]] ∧ Fresh w2 W) := fun W hF => ⟨hM4.fresh hF, hFw4.trans hF (fun _ _ e => e)⟩
        have HRk : Hid (∀ W, Fresh w4 W → ∀ v, R8 v (roL zs gs) ∈ [R8 (.slice o3 (roL zs gs).length c3) (roL zs gs), R8 (.slice a1 (roL zs gs).length c1) (roL zs gs), R8 (.slice a2 (roL zs gs).length c2) (roL zs gs), KR (.slice (some ⟨g4, 0, none⟩) 2 2) [.slice a1 (roL zs gs).length c1, .slice a2 (roL zs gs).length c2]] → Calls Try.prog 15 #[v, .slice wo (roL zs gs).length wc] W fun e w' => e = .returned (.bool true) ∧ ∃ n, w' = W.drewN n) := fun W hF v hv => rows_any _ _ _ _ _ W ((HM4.out W hF).1.rk hv HRL.out.1 HRL.out.2.1) (HL2.out W (HM4.out W hF).2).2
        have HCel : Hid (∀ W, Fresh w4 W → W.cell? ⟨g4, 0, none⟩ = some (.slice a1 (roL zs gs).length c1) ∧ W.cell? ⟨g4, 1, none⟩ = some (.slice a2 (roL zs gs).length c2)) := fun W hF => (HM4.out W hF).1.cells2 (by simp)
        have H4 : Hid (Unit → _) := fun (_ : Unit) => HRk.out w4 (Kept.refl _ _) _ List.mem_cons_self
        have HN : Hid (us.length ≤ 3 * i) := HM3.out.2.2
        clear hI hO4 hF4 hRs hM4 hFw4 HM3 h0
        go_wp2_with fail
        refine (H4.out ()).mono ?_
        rintro e w5 ⟨rfl, n5, hw5⟩
        have hF5 : Fresh w4 w5 := by rw [hw5]; exact kept_drewN _ _ _
        have HF5 : Hid (Fresh w4 w5) := hF5
        obtain ⟨g1, g2⟩ := HCel.out w5 hF5
        have H5 : Hid (Unit → _) := fun (_ : Unit) => HRk.out w5 hF5 (.slice a1 (roL zs gs).length c1) (List.mem_cons_of_mem _ List.mem_cons_self)
        clear H4 hw5 hF5
        go_wp2_with fail
        refine (H5.out ()).mono ?_
        rintro e w6 ⟨rfl, n6, hw6⟩
        have hF6 : Fresh w4 w6 := by rw [hw6]; exact HF5.out.drewN n6
        have HF6 : Hid (Fresh w4 w6) := hF6
        clear g1 g2
        obtain ⟨g1, g2⟩ := HCel.out w6 hF6
        have H6 : Hid (Unit → _) := fun (_ : Unit) => HRk.out w6 hF6 (.slice a2 (roL zs gs).length c2) (List.mem_cons_of_mem _ (List.mem_cons_of_mem _ List.mem_cons_self))
        clear H5 hw6 hF6 HF5
        go_wp2_with fail
        refine (H6.out ()).mono ?_
        rintro e w7 ⟨rfl, n7, hw7⟩
        have hF7 : Fresh w4 w7 := by rw [hw7]; exact HF6.out.drewN n7
        obtain ⟨m7, f7⟩ := HM4.out w7 hF7
        clear g1 g2 H6 hw7 HF6 HRk HCel HM4 hF7
        have hal : Fresh w7 (w7.alloc (.cells #[.slice o3 (roL zs gs).length c3] 31)) := (Kept.refl _ w7).alloc _
        have m7a : MemX w2.heap.size (w7.alloc (.cells #[.slice o3 (roL zs gs).length c3] 31)) (.slice ko us.length kc) us (fun _ => (roL zs gs)) (([Value.slice o3 (roL zs gs).length c3] : List Value).map (fun u => R8 u (roL zs gs)) ++ [R8 (.slice a1 (roL zs gs).length c1) (roL zs gs), R8 (.slice a2 (roL zs gs).length c2) (roL zs gs), KR (.slice (some ⟨g4, 0, none⟩) 2 2) [.slice a1 (roL zs gs).length c1, .slice a2 (roL zs gs).length c2]]) := m7.fresh hal
        obtain ⟨kv2, X2, hq1, m8, k8⟩ := m7a.app (Nat.le_trans f7.size hal.size) ⟨w7.heap.size, 0, none⟩ 1 1 rfl (fun j u hj => cell_one_new w7 _ _ j u hj) (fun u hu => by simp at hu; subst hu; rfl) (by have := HN.out; omega)
        have f8 : Fresh w2 X2 := kept_low m7a rfl (f7.trans hal (fun _ _ e => e)) k8
        obtain ⟨k2o, k2c, hk2⟩ := m8.shape
        obtain ⟨n1, hn1⟩ : ∃ n1, (us ++ [Value.slice o3 (roL zs gs).length c3]).length = n1 := ⟨_, rfl⟩
        rw [hn1] at hk2
        subst hk2
        have hcl := m8.cells2 (g := g4) (u1 := .slice a1 (roL zs gs).length c1) (u2 := .slice a2 (roL zs gs).length c2) (by simp)
        obtain ⟨kv3, X3, hq2, m9, k9⟩ := MemX.app (vs := [.slice a1 (roL zs gs).length c1, .slice a2 (roL zs gs).length c2]) (ex := [KR (.slice (some ⟨g4, 0, none⟩) 2 2) [.slice a1 (roL zs gs).length c1, .slice a2 (roL zs gs).length c2]]) m8 f8.size ⟨g4, 0, none⟩ 2 2 rfl (fun j u hj => by
          match j, hj with
          | 0, hj => simp at hj; subst hj; exact hcl.1
          | 1, hj => simp at hj; subst hj; exact hcl.2
          | j + 2, hj => simp at hj) (fun u hu => by simp at hu; rcases hu with e | e <;> (subst e; rfl)) (by have := HN.out; simp; omega)
        have f9 : Fresh w2 X3 := kept_low m8 rfl f8 k9
        obtain ⟨k3o, k3c, hk3⟩ := m9.shape
        obtain ⟨us3, hus3⟩ : ∃ us3, (us ++ [Value.slice o3 (roL zs gs).length c3]) ++ [Value.slice a1 (roL zs gs).length c1, Value.slice a2 (roL zs gs).length c2] = us3 := ⟨_, rfl⟩
        have hl3 : us3.length ≤ 3 * (i + 1) ∧ 0 < us3.length := by rw [← hus3]; have := HN.out; simp; omega
        rw [hus3] at m9 hk3
        obtain ⟨n2, hn2⟩ : ∃ n2, us3.length = n2 := ⟨_, rfl⟩
        rw [hn2] at hk3
        subst hk3
        have HX : Hid (MemX w2.heap.size X3 (.slice k3o n2 k3c) us3 (fun _ => (roL zs gs)) [] ∧ Fresh w2 X3 ∧ us3.length ≤ 3 * (i + 1) ∧ (1 ≤ i + 1 → 0 < us3.length)) := ⟨m9.drop, f9, hl3.1, fun _ => hl3.2⟩
        clear hn1 hus3 hn2 hl3
        clear m7 f7 hal m7a m8 k8 f8 hcl m9 k9 f9 HN
        go_wp2_with (at_builtin; first | (refine Lib.wpList_append_run _ rfl _ _ _ _ rfl _ _ rfl rfl _ _ hq1 ?_; clear hq1) | (refine Lib.wpList_append_run _ rfl _ _ _ _ rfl _ _ rfl rfl _ _ hq2 ?_; clear hq2))
        go_roundw
        case rel => exact ⟨i + 1, _, _, hi3, by go_num, rfl, HX.out⟩
        case measure => simp [RowKit.intOf]; omega
      · have e4 := (ra_two hI).2 h0
        subst e4
        have hb4 := hO4.none
        have HM4 : Hid (∀ W, Fresh w4 W → MemX w2.heap.size W (.slice ko us.length kc) us (fun _ => roL zs gs) [R8 (.slice o3 (roL zs gs).length c3) (roL zs gs)] ∧ Fresh w2 W) := fun W hF => ⟨(HM3.out.1.fresh hF4).fresh hF, hFw4.trans hF (fun _ _ e => e)⟩
        have H4 : Hid (Unit → _) := fun (_ : Unit) => rows_any _ _ _ _ _ w4 ((HM4.out w4 (Kept.refl _ _)).1.rk List.mem_cons_self HRL.out.1 HRL.out.2.1) (HL2.out w4 hFw4).2
        have HN : Hid (us.length ≤ 3 * i) := HM3.out.2.2
        obtain ⟨o4, ho4⟩ : ∃ o4, v4 = .slice o4 0 0 := by
          rcases hb4 with e | ⟨g, e⟩
          · exact ⟨_, e⟩
          · exact ⟨_, e⟩
        have HB4 : Hid (v4 = .slice none 0 0 ∨ ∃ g, v4 = .slice (some ⟨g, 0, none⟩) 0 0) := hb4
        subst ho4
        clear hI hO4 hF4 hFw4 HM3 h0 hb4
        go_wp2_with fail
        refine (H4.out ()).mono ?_
        rintro e w7 ⟨rfl, n7, hw7⟩
        have hF7 : Fresh w4 w7 := by rw [hw7]; exact kept_drewN _ _ _
        obtain ⟨m7, f7⟩ := HM4.out w7 hF7
        clear H4 hw7 HM4 hF7
        have hal : Fresh w7 (w7.alloc (.cells #[.slice o3 (roL zs gs).length c3] 31)) := (Kept.refl _ w7).alloc _
        have m7a : MemX w2.heap.size (w7.alloc (.cells #[.slice o3 (roL zs gs).length c3] 31)) (.slice ko us.length kc) us (fun _ => (roL zs gs)) (([Value.slice o3 (roL zs gs).length c3] : List Value).map (fun u => R8 u (roL zs gs)) ++ []) := m7.fresh hal
        obtain ⟨kv2, X2, hq1, m8, k8⟩ := m7a.app (Nat.le_trans f7.size hal.size) ⟨w7.heap.size, 0, none⟩ 1 1 rfl (fun j u hj => cell_one_new w7 _ _ j u hj) (fun u hu => by simp at hu; subst hu; rfl) (by have := HN.out; omega)
        have f8 : Fresh w2 X2 := kept_low m7a rfl (f7.trans hal (fun _ _ e => e)) k8
        obtain ⟨k2o, k2c, hk2⟩ := m8.shape
        obtain ⟨n1, hn1⟩ : ∃ n1, (us ++ [Value.slice o3 (roL zs gs).length c3]).length = n1 := ⟨_, rfl⟩
        rw [hn1] at hk2
        subst hk2
        obtain ⟨kv3, X3, hq2, m9, k9⟩ := m8.app0 f8.size HB4.out (by have := HN.out; simp; omega)
        have f9 : Fresh w2 X3 := kept_low m8 rfl f8 k9
        obtain ⟨k3o, k3c, hk3⟩ := m9.shape
        obtain ⟨us3, hus3⟩ : ∃ us3, us ++ [Value.slice o3 (roL zs gs).length c3] = us3 := ⟨_, rfl⟩
        have hl3 : us3.length ≤ 3 * (i + 1) ∧ 0 < us3.length := by rw [← hus3]; have := HN.out; simp; omega
        rw [hn1] at hk3
        subst hk3
        rw [hus3] at m9
        have HX : Hid (MemX w2.heap.size X3 (.slice k3o n1 k3c) us3 (fun _ => (roL zs gs)) [] ∧ Fresh w2 X3 ∧ us3.length ≤ 3 * (i + 1) ∧ (1 ≤ i + 1 → 0 < us3.length)) := ⟨m9, f9, hl3.1, fun _ => hl3.2⟩
        clear hn1 hus3 hl3
        clear m7 f7 hal m7a m8 k8 f8 m9 k9 f9 HN HB4
        go_wp2_with (at_builtin; first | (refine Lib.wpList_append_run _ rfl _ _ _ _ rfl _ _ rfl rfl _ _ hq1 ?_; clear hq1) | (refine Lib.wpList_append_run _ rfl _ _ _ _ rfl _ _ rfl rfl _ _ hq2 ?_; clear hq2))
        go_roundw
        case rel => exact ⟨i + 1, _, _, hi3, by go_num, rfl, HX.out⟩
        case measure => simp [RowKit.intOf]; omega
    · obtain rfl : i = 3 := by omega
      have hlen3 := HA.out.2.2.2 (by omega)
      have hlen9 := HA.out.2.2.1
      obtain ⟨gk, kc', hkk, hgB, hkcell⟩ := HA.out.1.kshape hlen3
      injection hkk with e1 _ e3
      subst e1
      subst e3
      obtain ⟨N, hN⟩ : ∃ N, us.length = N := ⟨_, rfl⟩
      obtain ⟨r, hr⟩ : ∃ r, (roL zs gs).length = r := ⟨_, rfl⟩
      have HNr : Hid (us.length = N ∧ (roL zs gs).length = r) := ⟨hN, hr⟩
      have HM : Hid (MemX w2.heap.size wr (.slice (some ⟨gk, 0, none⟩) us.length kc) us (fun _ => roL zs gs) [] ∧ Fresh w2 wr ∧ (∀ p, ((fun _ => roL zs gs : Nat → List Int) p).length = r) ∧ ∀ p, p < 0 → ∀ q, q < r → ((fun _ => roL zs gs : Nat → List Int) p).getD q 0 = (p : Int)) := ⟨HA.out.1, HA.out.2.1, fun _ => hr, fun p hp => by omega⟩
      have hr64 : r ≤ 64 := by rw [← hr]; exact HRL.out.2.2
      have HCk : Hid (∀ (X : World) (F : Nat → List Int), MemX w2.heap.size X (.slice (some ⟨gk, 0, none⟩) us.length kc) us F [] → (∀ p, (F p).length = r) → ∀ p, p < N → ∃ ao c, X.cell? ⟨gk, p, none⟩ = some (.slice ao r c) ∧ us.getD p nilS = .slice ao r c ∧ (0 < r → ∃ g, ao = some ⟨g, 0, none⟩ ∧ w2.heap.size ≤ g ∧ X.ownsRow w2.heap.size 45 1 (.slice (some ⟨g, 0, none⟩) r c) r ((F p).map (Value.int .i8)))) := fun X F hX hF p hp => by
        obtain ⟨g', c', hkk, _, hcell⟩ := hX.kshape hlen3
        injection hkk with e1 _ _
        injection e1 with e1
        injection e1 with e1
        subst e1
        have ho := hX.row (p := p) (by rw [HNr.out.1]; exact hp)
        rw [hF p] at ho
        obtain ⟨ao, c, hs⟩ := ownsRow_shape ho
        refine ⟨ao, c, by rw [hcell p (by rw [HNr.out.1]; exact hp), hs], hs, fun hr0 => ?_⟩
        rw [hs] at ho
        obtain ⟨g, c2, e, hg⟩ := own_some ho hr0
        injection e with e1 _ e3
        subst e1
        subst e3
        exact ⟨g, rfl, hg, ho⟩
      rw [hN] at hlen3 hlen9 HM HCk ⊢
      clear HA hkcell hi hi3 hgB hN hr
      go_wp2
      go_loopw [14] (fun iv wx => ∃ (i : Nat) (F : Nat → List Int), i ≤ N ∧ iv = zV i ∧ Hid (MemX w2.heap.size wx (.slice (some ⟨gk, 0, none⟩) N kc) us F [] ∧ Fresh w2 wx ∧ (∀ p, (F p).length = r) ∧ ∀ p, p < i → ∀ q, q < r → (F p).getD q 0 = (p : Int))) (fun iv _ => N - (RowKit.intOf iv).toNat)
      case atStart => exact ⟨0, _, Nat.zero_le _, rfl, HM.out⟩
      case round =>
        obtain ⟨i, F, hi, rfl, HA⟩ := hrel
        clear HM
        by_cases hlt : i < N
        · have hlt' : (i : Int) < (N : Int) := by omega
          have hi8 : (i : Int) ≤ 8 := by omega
          have HB : Hid (MemX w2.heap.size wr (.slice (some ⟨gk, 0, none⟩) N kc) us F [] ∧ Fresh w2 wr ∧ (∀ p, (F p).length = r) ∧ (∀ p, p < i → ∀ q, q < r → (F p).getD q 0 = (p : Int)) ∧ ∀ q, q < 0 → (F i).getD q 0 = (i : Int)) := ⟨HA.out.1, HA.out.2.1, HA.out.2.2.1, HA.out.2.2.2, fun q hq => by omega⟩
          clear HA
          go_wp2
          go_loopw [15] (fun jv wx => ∃ (j : Nat) (F : Nat → List Int), j ≤ r ∧ jv = zV j ∧ Hid (MemX w2.heap.size wx (.slice (some ⟨gk, 0, none⟩) N kc) us F [] ∧ Fresh w2 wx ∧ (∀ p, (F p).length = r) ∧ (∀ p, p < i → ∀ q, q < r → (F p).getD q 0 = (p : Int)) ∧ ∀ q, q < j → (F i).getD q 0 = (i : Int))) (fun jv _ => r - (RowKit.intOf jv).toNat)
          case atStart => exact ⟨0, F, Nat.zero_le _, rfl, HB.out⟩
          case round =>
            obtain ⟨j, F', hj, rfl, HA⟩ := hrel
            clear HB
            obtain ⟨xo, xc, x1, x2, x3⟩ := HCk.out wr F' HA.out.1 HA.out.2.2.1 i hlt
            by_cases hjr : j < r
            · obtain ⟨g, rfl, hg, ho⟩ := x3 (by omega)
              have hjr' : (j : Int) < (r : Int) := by omega
              have f1 := own_frozen ho j
              have g1 := own_get ho j hjr
              have HX : Hid (MemX w2.heap.size (wr.setCell ⟨g, j, none⟩ (.int .i8 (i : Int))) (.slice (some ⟨gk, 0, none⟩) N kc) us (fun q => if q = i then (F' i).set j (i : Int) else F' q) [] ∧ Fresh w2 (wr.setCell ⟨g, j, none⟩ (.int .i8 (i : Int))) ∧ (∀ p, ((fun q => if q = i then (F' i).set j (i : Int) else F' q) p).length = r) ∧ (∀ p, p < i → ∀ q, q < r → ((fun q => if q = i then (F' i).set j (i : Int) else F' q) p).getD q 0 = (p : Int)) ∧ ∀ q, q < j + 1 → ((fun q => if q = i then (F' i).set j (i : Int) else F' q) i).getD q 0 = (i : Int)) := by
                refine ⟨HA.out.1.store (by rw [HNr.out.1]; exact hlt) x2 j (i : Int), HA.out.2.1.setCell (fun e => by have : g < w2.heap.size := e; omega) _, fun p => ?_, fun p hp q hq => ?_, fun q hq => ?_⟩
                · show (if p = i then (F' i).set j (i : Int) else F' p).length = r
                  split
                  · rw [List.length_set]; exact HA.out.2.2.1 i
                  · exact HA.out.2.2.1 p
                · show (if p = i then (F' i).set j (i : Int) else F' p).getD q 0 = (p : Int)
                  rw [if_neg (by omega)]
                  exact HA.out.2.2.2.1 p hp q hq
                · show (if i = i then (F' i).set j (i : Int) else F' i).getD q 0 = (i : Int)
                  rw [if_pos rfl, getD_set_at (by rw [HA.out.2.2.1 i]; exact hjr)]
                  split
                  · rfl
                  · exact HA.out.2.2.2.2 q (by omega)
              clear HA ho x2 x3 hg
              generalize (F' i).getD j 0 = old at *
              go_wp2
              go_roundw
              case rel => exact ⟨j + 1, _, hjr, by go_num, HX.out⟩
              case measure => simp [RowKit.intOf]; omega
            · obtain rfl : j = r := by omega
              have HE : Hid (MemX w2.heap.size wr (.slice (some ⟨gk, 0, none⟩) N kc) us F' [] ∧ Fresh w2 wr ∧ (∀ p, (F' p).length = j) ∧ ∀ p, p < i + 1 → ∀ q, q < j → (F' p).getD q 0 = (p : Int)) := ⟨HA.out.1, HA.out.2.1, HA.out.2.2.1, fun p hp q hq => by
                rcases Nat.lt_or_ge p i with e | e
                · exact HA.out.2.2.2.1 p e q hq
                · obtain rfl : p = i := by omega
                  exact HA.out.2.2.2.2 q hq⟩
              clear HA x2 x3
              go_wp2
              go_roundw
              case rel => exact ⟨i + 1, F', hlt, by go_num, HE.out⟩
              case measure => simp [RowKit.intOf]; omega
        · obtain rfl : i = N := by omega
          have HM : Hid (MemX w2.heap.size wr (.slice (some ⟨gk, 0, none⟩) i kc) us F [] ∧ Fresh w2 wr) := ⟨HA.out.1, HA.out.2.1⟩
          have HFd : Hid ((∀ p, (F p).length = r) ∧ ∀ p, p < i → ∀ q, q < r → (F p).getD q 0 = (p : Int)) := ⟨HA.out.2.2.1, HA.out.2.2.2⟩
          clear HA hi hlt
          go_wp2
          go_loopw [16] (fun iv wx => ∃ p : Nat, p ≤ i ∧ iv = zV p ∧ Hid (MemX w2.heap.size wx (.slice (some ⟨gk, 0, none⟩) i kc) us F [] ∧ Fresh w2 wx)) (fun iv _ => i - (RowKit.intOf iv).toNat)
          case atStart => exact ⟨0, Nat.zero_le _, rfl, HM.out⟩
          case round =>
            obtain ⟨p, hp, rfl, HA⟩ := hrel
            clear HM
            by_cases hlt : p < i
            · have hlt' : (p : Int) < (i : Int) := by omega
              obtain ⟨xo, xc, x1, x2, x3⟩ := HCk.out wr F HA.out.1 HFd.out.1 p hlt
              have hG0 := Gro.start HA.out.1 (p := p) (by rw [HNr.out.1]; exact hlt)
              rw [x2, HFd.out.1 p] at hG0
              have HB : Hid (Gro w2.heap.size wr (.slice (some ⟨gk, 0, none⟩) i kc) us F p (.slice xo r xc) (r + 0) ∧ Fresh w2 wr) := ⟨hG0, HA.out.2⟩
              clear HA x2 x3 hG0
              go_wp2
              go_loopw [17, 18] (fun gv qv wx => ∃ (q : Nat) (gv' : Value), q ≤ 20 ∧ qv = zV q ∧ gv = gv' ∧ Hid (Gro w2.heap.size wx (.slice (some ⟨gk, 0, none⟩) i kc) us F p gv' (r + q) ∧ Fresh w2 wx)) (fun _ qv _ => 20 - (RowKit.intOf qv).toNat)
              case atStart => exact ⟨0, _, Nat.zero_le _, rfl, rfl, HB.out⟩
              case round =>
                obtain ⟨q, gv', hq, rfl, rfl, HA⟩ := hrel
                clear HB
                obtain ⟨oo, oc, hov⟩ := HA.out.1.shape
                subst hov
                by_cases hq20 : q < 20
                · obtain ⟨gv2, X2, hra, hG2, hF2⟩ := HA.out.1.push HA.out.2.size 77 (by omega)
                  obtain ⟨o2, oc2, hov⟩ := hG2.shape
                  subst hov
                  have hq20' : (q : Int) < 20 := by omega
                  have HX : Hid (Gro w2.heap.size X2 (.slice (some ⟨gk, 0, none⟩) i kc) us F p (.slice o2 (r + q + 1) oc2) (r + (q + 1)) ∧ Fresh w2 X2) := ⟨hG2, hF2 w2 rfl HA.out.2⟩
                  clear HA hG2 hF2
                  go_wp2_with (at_builtin; refine Lib.wpList_append_run _ rfl _ _ _ _ rfl _ _ rfl rfl _ _ hra ?_)
                  go_roundw
                  case rel => exact ⟨q + 1, _, hq20, by go_num, rfl, HX.out⟩
                  case measure => simp [RowKit.intOf]; omega
                · obtain rfl : q = 20 := by omega
                  have HE : Hid (MemX w2.heap.size wr (.slice (some ⟨gk, 0, none⟩) i kc) us F [] ∧ Fresh w2 wr) := ⟨HA.out.1.done (by rw [HNr.out.1]; exact hlt), HA.out.2⟩
                  clear HA hq hq20
                  rw [show ((20 : Nat) : Int) = 20 from rfl]
                  go_wp2
                  go_roundw
                  case rel => exact ⟨p + 1, hlt, by go_num, HE.out⟩
                  case measure => simp [RowKit.intOf]; omega
            · obtain rfl : p = i := by omega
              clear hp hlt
              generalize wr = WF at *
              have HM : Hid _ := HA.out
              clear HA
              go_wp2
              go_loopw [19] (fun iv wx => ∃ i : Nat, i ≤ p ∧ iv = zV i ∧ wx = WF) (fun iv _ => p - (RowKit.intOf iv).toNat)
              case atStart => exact ⟨0, Nat.zero_le _, rfl, rfl⟩
              case round =>
                obtain ⟨i, hi, rfl, hwr⟩ := hrel
                have hwr' := hwr.symm
                subst hwr'
                clear hwr
                by_cases hlt : i < p
                · have hlt' : (i : Int) < (p : Int) := by omega
                  have hi8 : (i : Int) ≤ 8 := by omega
                  obtain ⟨xo, xc, x1, x2, x3⟩ := HCk.out WF F HM.out.1 HFd.out.1 i hlt
                  clear x2
                  go_wp2
                  go_loopw [20] (fun jv wx => ∃ j : Nat, j ≤ r ∧ jv = zV j ∧ wx = WF) (fun jv _ => r - (RowKit.intOf jv).toNat)
                  case atStart => exact ⟨0, Nat.zero_le _, rfl, rfl⟩
                  case round =>
                    obtain ⟨j, hj, rfl, hwr⟩ := hrel
                    have hwr' := hwr.symm
                    subst hwr'
                    clear hwr
                    by_cases hjr : j < r
                    · obtain ⟨g, rfl, hg, ho⟩ := x3 (by omega)
                      have hjr' : (j : Int) < (r : Int) := by omega
                      have g1 := own_get ho j hjr
                      rw [HFd.out.2 i hlt j hjr] at g1
                      clear ho x3 hg
                      go_wp2
                      go_roundw
                      case rel => exact ⟨j + 1, hjr, by go_num, trivial⟩
                      case measure => simp [RowKit.intOf]; omega
                    · obtain rfl : j = r := by omega
                      clear x3
                      go_wp2
                      go_roundw
                      case rel => exact ⟨i + 1, hlt, by go_num, trivial⟩
                      case measure => simp [RowKit.intOf]; omega
                · obtain rfl : i = p := by omega
                  have hFF := HM.out.2
                  have HFF : Hid (Fresh w2 WF) := hFF
                  have H7 : Hid (Unit → _) := fun (_ : Unit) => Row_any _ _ _ _ _ _ WF (HL2.out WF hFF).1.1 (HL2.out WF hFF).1.2
                  clear HM hFF HCk HFd hlt hi
                  go_wp2_with fail
                  refine (H7.out ()).mono ?_
                  rintro e w8 hG
                  obtain ⟨v8, rfl, hR8, hF8⟩ := hG.row HRL.out.1 HRL.out.2.1
                  have HF8 : Hid (Fresh w2 w8) := HFF.out.trans hF8 (fun _ _ e => e)
                  have HR8 : Hid (∀ W, Fresh w8 W → Rk .i8 (fun b => WF.heap.size ≤ b ∧ b < w8.heap.size) W v8 (roL zs gs)) := fun W hF => hR8.fresh hF
                  clear H7 hG hR8 hF8
                  go_wp2_with fail
                  refine (HAW.out _).mono ?_
                  rintro e w9 ⟨rfl, hF9⟩
                  have HF9 : Hid (Fresh w2 w9) := HF8.out.trans hF9 (fun _ _ e => e)
                  have H9 : Hid (Unit → _) := fun (_ : Unit) => rows_any _ _ _ _ _ w9 (HR8.out w9 hF9) (HL2.out w9 HF9.out).2
                  clear hF9 HAW HR8 HF8
                  go_wp2_with fail
                  refine (H9.out ()).mono ?_
                  rintro e w10 ⟨rfl, n10, hw10⟩
                  have HF10 : Hid (Fresh w w10) := by show Fresh _ _; rw [hw10]; exact HF2.out.trans (HF9.out.drewN n10) (fun _ _ e => e)
                  clear hw10 H9 HF9
                  go_wp2
                  go_ret
                  exact ⟨rfl, HF10.out⟩
set_option maxRecDepth 100000 in
theorem contract (H : Type) (enc : TypeId × Value → H) (W : World) (base : Nat) (args : Array Value) (ds gs : List (DataW H)) (before : List MemPlace)
    (hval : ∀ (j : Nat) t v, Try.f8.params[j]? = some t → args[j]? = some v → Value.okWide Try.prog W .any base t v)
    (hW : DataW.Whole enc Try.prog Try.f8.params.toList Rows.normMemorySpec.vars false W args.toList ds gs before) 
    (hsz : (DataW.weightsEach Try.prog (Try.f8.params.toList ++ []) (ds ++ gs)).all (· ≤ reachBytes) = true) (hL : laidMetH Try.prog Rows.normMemoryRow.laid W) :
    Calls Try.prog 8 args W fun e W' => ∃ v, e = .returned v ∧ Rows.normMemorySpec.post enc Try.prog Try.f8 false true false false W args v W' := by
  have hW' := hW
  obtain ⟨p, q, hA0, hV, rfl, hfz, hnd⟩ := hW
  have hA : DataW.TrodAll enc Try.prog W 0 (fun _ => true) true Try.f8.params.toList args.toList ds p := hA0
  rw [Try.params8] at hA hval hsz
  obtain ⟨rfl, rfl⟩ := trodVars_none hV
  have _hL := hL
  obtain ⟨v0, v1, d0, d1, p0, p1, rfl, rfl, rfl, h0, h1⟩ := trodAll_two hA
  obtain ⟨zs, hz⟩ := arg64 (hval 0 22 v0 rfl rfl) h0 hsz (j := 0) rfl rfl
  obtain ⟨gs, hg⟩ := arg8 (hval 1 31 v1 rfl rfl) h1 hsz (j := 1) rfl rfl
  refine (walk v0 v1 zs gs W hz hg).mono fun e W' ⟨he, hk⟩ => ?_
  subst he
  exact ⟨_, rfl, post_law rfl (by kernel_rfl) (by kernel_rfl) hW' rfl hk⟩

set_option maxRecDepth 100000 in
theorem laid_met (os : Os) : laidMet Try.prog Rows.normMemoryRow.laid ((layIn (World.holding Try.prog os ⟨#[], #[], []⟩)).forCall (fun _ _ => 0) ⟨#[], #[.slice none 0 0, .slice none 0 0], []⟩).memory :=
  laidMet_of_run' 8 (by kernel_rfl) (by kernel_rfl)
set_option maxRecDepth 100000 in
theorem reads (os : Os) {H : Type} (enc : TypeId × Value → H) : ∃ places, DataW.whole enc Try.prog ((layIn (World.holding Try.prog os ⟨#[], #[], []⟩)).forCall (fun _ _ => 0) ⟨#[], #[.slice none 0 0, .slice none 0 0], []⟩).memory Try.f8.params.toList Rows.normMemorySpec.vars false (#[.slice none 0 0, .slice none 0 0] : Array Value).toList 8 = some ([.nil, .nil], [], places) :=
  ⟨[], by kernel_rfl⟩

set_option maxRecDepth 100000 in
theorem lifted (os : Os) (started : os.Started) (H : Type) (enc : TypeId × Value → H) (F : Stop.Interp) :
    ReturnsInHanded {} Try.checked os 8 .any ((OpenSpec.ofChange Rows.normMemorySpec).preRow enc Try.prog Try.f8 Rows.normMemoryRow.domain false Rows.normMemoryRow.laid) (((OpenSpec.ofChange Rows.normMemorySpec).at F).post enc Try.prog Try.f8 false true false false) := by
  obtain ⟨places, hx⟩ := reads os enc
  refine returnsInHanded_of_row (C := Try.checked) (s := OpenSpec.ofChange Rows.normMemorySpec) Try.own started (by kernel_rfl) Try.func8
    (witness_row_at (enc := enc) (C := Try.checked) false (layIn (World.holding Try.prog os ⟨#[], #[], []⟩)) #[.slice none 0 0, .slice none 0 0] rfl (by kernel_rfl) (by kernel_rfl) (by kernel_rfl)
      (OpenSpec.preRow_of_cond 8 hx (by kernel_rfl) (fun k hk => by cases hk) (by kernel_rfl) (laid_met os))) ?_
  intro W base args ds gs before hval hW _ hc hsz hL _ _
  exact contract H enc W base args ds gs before hval hW hsz hL

theorem said : Rows.NormMemorySaid :=
  OpenClaim.holds_of_cond 8 Try.f8 rfl rfl rfl rfl rfl rfl rfl ⟨rfl, rfl, rfl, rfl, rfl⟩ rfl rfl rfl rfl rfl (by kernel_rfl) Try.func8 (by kernel_rfl)
    (of_decide_eq_true (by kernel_rfl)) (by unfold Func.isWrapper; first | (rw [if_pos (by decide +kernel)]; kernel_rfl) | (rw [if_neg (by decide +kernel)]; exact ⟨rfl, rfl⟩))
    (fun os started H enc _ F => by rw [OpenClaim.pre_eq_preRow]; exact lifted os started H enc F)


end Go.Proofs.Ytibbifklnimlcaa.Memory9
namespace Go.Proofs.Ytibbifklnimlcaa
theorem normMemory_holds : Rows.NormMemorySaid := Memory9.said
end Go.Proofs.Ytibbifklnimlcaa
