/-
  For every router and every row the statement ActChooses answers true: awake does; Choose is the document's; what is handed in stays; the weights sum to 65536 and never rise, and none is chosen twice; its card, tied to the program's text.
-/
import Derived.Test.YtbppahmcjifflaaDoorAcv
import Derived.Test.YtbppahmcjifflaaDoorAcY
import Derived.Lib.SmallJoins
namespace Go.Proofs.YtbppahmcjifflaaDoor.AChooses
open Go.ChangeShapes Go.WideShapes Go.ChangeAt Go.RowKit Go.Lib Go.Maps Go.Joins

set_option maxRecDepth 100000 in
theorem router_of {H : Type} {enc : TypeId × Value → H} {W : World} {r : Reach} {b0 : Nat} {v : Value} {d : DataW H} {p : List MemPlace} {ts : List TypeId} {ds : List (DataW H)} {j : Nat} (hv : Value.okWide Tryd.prog W r b0 51 v) (h : DataW.Trod enc Tryd.prog W 0 (fun _ => true) true 51 v d p)
    (hsz : (DataW.weightsEach Tryd.prog ts ds).all (· ≤ reachBytes) = true) (ht : ts[j]? = some 51) (hd : ds[j]? = some d) :
    ∃ (wv : Value) (ws : List Int) (s k : Int), v = .agg #[wv, zV s, zV k] ∧ Rk .i8 (fun b => b < W.heap.size) W wv ws ∧ I64 s ∧ I64 k := by
  obtain ⟨v0, v1, v2, y0, y1, y2, n, rfl, rfl, rfl, q0, q1, q2⟩ := open_agg3 Tryd.underlying51 (by kernel_rfl) (by kernel_rfl) hv h
  have hf := sized_field hsz ht hd Tryd.underlying51
  obtain ⟨ws, hws, _⟩ := row_of ty8 q0 (fun es sp e => by
    have := sized_slice hf (j := 0) (t := 23) (e := 30) rfl (by rw [e]; rfl) Tryd.underlying23
    rw [Tryd.b8] at this
    simp only [reachBytes] at this
    simp [kb]
    omega)
  obtain ⟨s, e1, _, w1⟩ := DataW.trod_int Tryd.underlying3 q1
  obtain ⟨k, e2, _, w2⟩ := DataW.trod_int Tryd.underlying3 q2
  simp only [List.cons.injEq, and_true] at e1 e2
  exact ⟨v0, ws, s, k, by rw [e1, e2], hws, i64_of w1, i64_of w2⟩

set_option maxHeartbeats 4000000 in
set_option maxRecDepth 100000 in
theorem walk (wv hv : Value) (ws h : List Int) (s k : Int) (w : World) (hB : Bend w) (hw : Rk .i8 (fun x => x < w.heap.size) w wv ws) (hh : Rk .i8 (fun x => x < w.heap.size) w hv h) (hs : I64 s) :
    Calls Tryd.prog 8 #[.agg #[wv, zV s, zV k], hv] w fun e w' => e = .returned (.bool true) ∧ Fresh w w' := by
  obtain ⟨W0, hW0⟩ : ∃ W0, w.alloc (.cells #[wv, zV s, zV k] 51) = W0 := ⟨_, rfl⟩
  have hF0 : Fresh w W0 := by rw [← hW0]; exact (Kept.refl _ w).alloc _
  have p0 : W0.heap[w.heap.size]? = some (.cells #[wv, zV s, zV k] 51 (0, 0)) := by rw [← hW0]; exact heap_alloc_new w _
  have HS : Hid (∀ W, Fresh W0 W → W.cell? ⟨w.heap.size, 0, none⟩ = some wv ∧ W.cell? ⟨w.heap.size, 1, none⟩ = some (zV s) ∧ W.cell? ⟨w.heap.size, 2, none⟩ = some (zV k)) := fun W hF => by
    have q1 := hF.at p0 (fun e => e)
    exact ⟨by rw [Lib.cell_of_heap q1]; rfl, by rw [Lib.cell_of_heap q1]; rfl, by rw [Lib.cell_of_heap q1]; rfl⟩
  have HM : Hid (∀ W, Fresh W0 W → Bend W ∧ Rk .i8 (fun x => x < w.heap.size) W wv ws ∧ Rk .i8 (fun x => x < w.heap.size) W hv h) := fun W hF => by
    have := hF0.trans hF (fun _ _ e => e)
    exact ⟨hB.fresh this, hw.fresh this, hh.fresh this⟩
  have HAW : Hid (Unit → _) := fun (_ : Unit) => awake_any W0 (hB.fresh hF0)
  have HF0 : Hid (Fresh w W0) := hF0
  have HI : Hid (I64 s) := hs
  obtain ⟨ao, ac, rfl, _⟩ := hw.shape
  obtain ⟨bo, bc, rfl, _⟩ := hh.shape
  clear hw hh hB hs p0 hF0
  go_enter Tryd.func8, Tryd.ntmps8
  go_wp2_with fail
  refine (HAW.out ()).mono ?_
  rintro e w1 ⟨rfl, hF1⟩
  clear HAW hW0
  obtain ⟨q0, q1, q2⟩ := HS.out (w1.alloc (.cells #[] 30)) (hF1.alloc _)
  obtain ⟨t1, W1, hr1, hFa, hR1⟩ := copy_of ty8 (HM.out w1 hF1).2.1
  have hFa' : Fresh W0 W1 := hF1.trans hFa (fun _ _ e => e)
  obtain ⟨t2, W2, hr2, hFb, hR2⟩ := copy_of ty8 (HM.out W1 hFa').2.2
  have hFb' : Fresh W0 W2 := hFa'.trans hFb (fun _ _ e => e)
  have HF2 : Hid (Fresh W0 W2) := hFb'
  have HL : Hid (∀ W, Fresh W2 W → Rk .i8 _ W t1 ws ∧ Rk .i8 _ W t2 h) := fun W hF => ⟨(hR1.fresh hFb).fresh hF, hR2.fresh hF⟩
  obtain ⟨a1, c1, rfl, _⟩ := hR1.shape
  obtain ⟨a2, c2, rfl, _⟩ := hR2.shape
  obtain ⟨r0, r1, r2⟩ := HS.out W2 hFb'
  have H1 : Hid (Unit → _) := fun (_ : Unit) => Choose_any _ _ _ _ ws h s k W2 (HM.out W2 hFb').1 (HL.out W2 (Kept.refl _ _)).1 (HL.out W2 (Kept.refl _ _)).2 HI.out
  clear hR1 hR2 hFa hFb hFa' hFb' hF1
  go_wp2_with (at_builtin; first | (refine Lib.wpList_append_run _ rfl _ _ _ _ rfl _ _ rfl rfl _ _ hr1 ?_; clear hr1) | (refine Lib.wpList_append_run _ rfl _ _ _ _ rfl _ _ rfl rfl _ _ hr2 ?_; clear hr2))
  refine (H1.out ()).mono ?_
  rintro e w3 hch
  clear H1 q0 q1 q2 r0 r1 r2
  have HF3 : Hid (Fresh W0 w3) := HF2.out.trans hch.1 (fun _ _ e => e)
  have HF23 : Hid (Fresh W2 w3) := hch.1
  obtain ⟨q0, q1, q2⟩ := HS.out w3 HF3.out
  have H2 : Hid (Unit → _) := fun (_ : Unit) => refChoose_any _ _ _ _ ws h s k w3 (HM.out w3 HF3.out).2.1 (HM.out w3 HF3.out).2.2 HI.out
  rcases hch.2 with ⟨hE, rfl⟩ | ⟨hE, o, v1, v2, hO, rfl, hRo, hRw⟩
  · have HE : Hid (choE ws h s k ≠ 0) := hE
    have hE' : (choE ws h s k == 0) = false := by simp [hE]
    clear hch hE
    go_wp2_with fail
    refine (H2.out ()).mono ?_
    rintro e w4 hch2
    rcases hch2.2 with ⟨_, rfl⟩ | ⟨hE2, _⟩
    · have HF4 : Hid (Fresh W0 w4 ∧ Fresh W2 w4) := ⟨HF3.out.trans hch2.1 (fun _ _ e => e), HF23.out.trans hch2.1 (fun _ _ e => e)⟩
      clear H2 hch2 q0 q1 q2
      have H3 : Hid (Unit → _) := fun (_ : Unit) => same64_any (fun _ => True) (fun _ => True) (.slice none 0 0) (.slice none 0 0) [] w4 ⟨none, 0, rfl, by simp, fun e => absurd rfl e, by simp, fun _ => rfl, Nat.le_refl _⟩ ⟨none, 0, rfl, by simp, fun e => absurd rfl e, by simp, fun _ => rfl, Nat.le_refl _⟩
      generalize choE ws h s k = E at *
      go_wp2_with fail
      refine (H3.out ()).mono ?_
      rintro e w5 ⟨rfl, n5, hw5⟩
      have HF5 : Hid (Fresh W0 w5 ∧ Fresh W2 w5) := by rw [hw5]; exact ⟨HF4.out.1.drewN n5, HF4.out.2.drewN n5⟩
      clear hw5 H3 HF4
      obtain ⟨q0, q1, q2⟩ := HS.out w5 HF5.out.1
      have H5 : Hid (Unit → _) := fun (_ : Unit) => same8_any _ _ _ _ ws w5 (HL.out w5 HF5.out.2).1 (HM.out w5 HF5.out.1).2.1
      go_wp2_with fail
      refine (H5.out ()).mono ?_
      rintro e w6 ⟨rfl, n6, hw6⟩
      have HF6 : Hid (Fresh W0 w6 ∧ Fresh W2 w6) := by rw [hw6]; exact ⟨HF5.out.1.drewN n6, HF5.out.2.drewN n6⟩
      clear hw6 H5 HF5 q0 q1 q2
      have H6 : Hid (Unit → _) := fun (_ : Unit) => same8_any _ _ _ _ h w6 (HL.out w6 HF6.out.2).2 (HM.out w6 HF6.out.1).2.2
      go_wp2_with fail
      refine (H6.out ()).mono ?_
      rintro e w7 ⟨rfl, n7, hw7⟩
      have HF7 : Hid (Fresh w w7) := by show Fresh _ _; rw [hw7]; exact HF0.out.trans (HF6.out.1.drewN n7) (fun _ _ e => e)
      clear hw7 H6 HF6 HS HM HL
      go_wp2
      go_loop [79] (fun iv => iv = zV 0) (fun _ => 0)
      case atStart => rfl
      case round =>
        subst hrel
        go_wp2
        go_ret
        exact ⟨rfl, HF7.out⟩
    · exact absurd hE2 HE.out
  · obtain ⟨_, hk1, hk2⟩ := choE_zero hE
    have HE : Hid (choE ws h s k = 0) := hE
    have hol := hO.length
    have hOl : (o.take k.toNat).length = k.toNat := by rw [List.length_take, hol]; omega
    have hsl := scL_len ws h s
    have HN : Hid ((o.take k.toNat).Nodup ∧ (o.take k.toNat).Pairwise (Bf (fun i => (scL ws h s).getD i 0))) := ⟨List.Nodup.sublist (List.take_sublist _ _) hO.nodup, hO.2.sublist (List.take_sublist _ _)⟩
    have HU : Hid (∀ o2, IsOrd (fun i => (scL ws h s).getD i 0) (scL ws h s).length o2 → o2 = o) := fun o2 h2 => h2.unique hO
    have HR3 : Hid (∀ W, Fresh w3 W → Rk .i64 _ W v1 (upI (o.take k.toNat)) ∧ Rk .i64 _ W v2 (wtL (scL ws h s) (o.take k.toNat))) := fun W hF => ⟨hRo.fresh hF, hRw.fresh hF⟩
    obtain ⟨o1, oc1, rfl, _⟩ := hRo.shape
    obtain ⟨o2, oc2, rfl, _⟩ := hRw.shape
    have hul : (upI (o.take k.toNat)).length = (o.take k.toNat).length := upI_length _
    have hwl : (wtL (scL ws h s) (o.take k.toNat)).length = (o.take k.toNat).length := mkL_len _ _
    rw [hul, hwl] at HR3 ⊢
    have hn1 : 1 ≤ (o.take k.toNat).length := by omega
    have hn2 : (o.take k.toNat).length ≤ 1048576 := by omega
    obtain ⟨n, hn⟩ : ∃ n, (o.take k.toNat).length = n := ⟨_, rfl⟩
    have HUl : Hid ((upI (o.take k.toNat)).length = n ∧ (wtL (scL ws h s) (o.take k.toNat)).length = n ∧ (o.take k.toNat).length = n) := ⟨hul.trans hn, hwl.trans hn, hn⟩
    rw [hn] at hn1 hn2 HR3 ⊢
    clear hch hE hO hRo hRw hol hOl hsl hk1 hk2 hul hwl hn
    go_wp2_with fail
    refine (H2.out ()).mono ?_
    rintro e w4 hch2
    rcases hch2.2 with ⟨hE2, _⟩ | ⟨_, ob, v3, v4, hO2, rfl, hRo2, hRw2⟩
    · exact absurd HE.out hE2
    · obtain rfl := HU.out ob hO2
      obtain ⟨o3, oc3, rfl, _⟩ := hRo2.shape
      obtain ⟨o4, oc4, rfl, _⟩ := hRw2.shape
      rw [HUl.out.1] at hRo2 ⊢
      rw [HUl.out.2.1] at hRw2 ⊢
      have HF4 : Hid (Fresh W0 w4 ∧ Fresh W2 w4) := ⟨HF3.out.trans hch2.1 (fun _ _ e => e), HF23.out.trans hch2.1 (fun _ _ e => e)⟩
      have HR4 : Hid (∀ W, Fresh w4 W → (Rk .i64 _ W (.slice o1 n oc1) (upI (ob.take k.toNat)) ∧ Rk .i64 _ W (.slice o2 n oc2) (wtL (scL ws h s) (ob.take k.toNat))) ∧ Rk .i64 _ W (.slice o3 n oc3) (upI (ob.take k.toNat)) ∧ Rk .i64 _ W (.slice o4 n oc4) (wtL (scL ws h s) (ob.take k.toNat))) := fun W hF => ⟨HR3.out W (hch2.1.trans hF (fun _ _ e => e)), hRo2.fresh hF, hRw2.fresh hF⟩
      have H3 : Hid (Unit → _) := fun (_ : Unit) => same64_any _ _ _ _ _ w4 (HR4.out w4 (Kept.refl _ _)).1.2 (HR4.out w4 (Kept.refl _ _)).2.2
      generalize hzs : scL ws h s = zs at *
      generalize hO3 : ob.take k.toNat = O at *
      clear H2 hch2 q0 q1 q2 hO2 hRo2 hRw2 HU HR3 hO3 hzs
      have HOn : Hid (O.length = n) := HUl.out.2.2
      clear HUl
      go_wp2_with fail
      refine (H3.out ()).mono ?_
      rintro e w5 ⟨rfl, n5, hw5⟩
      have HF5 : Hid (Fresh W0 w5 ∧ Fresh W2 w5 ∧ Fresh w4 w5) := by rw [hw5]; exact ⟨HF4.out.1.drewN n5, HF4.out.2.drewN n5, (Kept.refl _ _).drewN n5⟩
      clear hw5 H3 HF4
      obtain ⟨q0, q1, q2⟩ := HS.out w5 HF5.out.1
      have H5 : Hid (Unit → _) := fun (_ : Unit) => same8_any _ _ _ _ ws w5 (HL.out w5 HF5.out.2.1).1 (HM.out w5 HF5.out.1).2.1
      go_wp2_with fail
      refine (H5.out ()).mono ?_
      rintro e w6 ⟨rfl, n6, hw6⟩
      have HF6 : Hid (Fresh W0 w6 ∧ Fresh W2 w6 ∧ Fresh w4 w6) := by rw [hw6]; exact ⟨HF5.out.1.drewN n6, HF5.out.2.1.drewN n6, HF5.out.2.2.drewN n6⟩
      clear hw6 H5 HF5 q0 q1 q2
      have H6 : Hid (Unit → _) := fun (_ : Unit) => same8_any _ _ _ _ h w6 (HL.out w6 HF6.out.2.1).2 (HM.out w6 HF6.out.1).2.2
      go_wp2_with fail
      refine (H6.out ()).mono ?_
      rintro e w7 ⟨rfl, n7, hw7⟩
      have HF7 : Hid (Fresh w w7) := by show Fresh _ _; rw [hw7]; exact HF0.out.trans (HF6.out.1.drewN n7) (fun _ _ e => e)
      have hF47 : Fresh w4 w7 := by rw [hw7]; exact HF6.out.2.2.drewN n7
      have hR7 := HR4.out w7 hF47
      obtain ⟨b1, f1, rfl, _, _, k1⟩ := hR7.1.1.cells.2.2.2 (by omega)
      obtain ⟨b2, f2, rfl, _, _, k2⟩ := hR7.1.2.cells.2.2.2 (by omega)
      obtain ⟨b3, f3, rfl, _, _, k3⟩ := hR7.2.1.cells.2.2.2 (by omega)
      have HK : Hid (∀ i, i < n → w7.cell? ⟨b1, f1 + i, none⟩ = some (zV ((O.getD i 0 : Nat) : Int)) ∧ w7.cell? ⟨b2, f2 + i, none⟩ = some (zV (wtF zs O i)) ∧ w7.cell? ⟨b3, f3 + i, none⟩ = some (zV ((O.getD i 0 : Nat) : Int))) := fun i hi => by
        have hu : (upI O).getD i 0 = ((O.getD i 0 : Nat) : Int) := by
          rw [List.getD_eq_getElem?_getD, upI_get, List.getD_eq_getElem?_getD, List.getElem?_eq_getElem (by rw [HOn.out]; exact hi)]
          rfl
        have e1 := k1 i hi
        have e2 := k2 i hi
        have e3 := k3 i hi
        rw [hu] at e1 e3
        rw [show (wtL zs O).getD i 0 = wtF zs O i from mkL_get (by rw [HOn.out]; exact hi)] at e2
        exact ⟨e1, e2, e3⟩
      have HW : Hid (∀ i, i < n → 0 ≤ wtF zs O i ∧ wtF zs O i ≤ 131072) := fun i hi => wtF_bound zs O (by rw [HOn.out]; exact hn1) (by rw [HOn.out]; exact hi)
      have HWf : Hid (∀ i, i + 1 < n → wtF zs O (i + 1) ≤ wtF zs O i) := fun i hi => wtF_falls zs O (by rw [HOn.out]; exact hn1) HN.out.2 (by rw [HOn.out]; exact hi)
      have HSw : Hid (∀ j, j ≤ n → -1 ≤ swF zs O j ∧ swF zs O j ≤ 137438953472) := fun j hj => swF_bound zs O (by rw [HOn.out]; exact hn1) (by rw [HOn.out]; exact hn2) (by rw [HOn.out]; exact hj)
      have HAp : Hid (∀ i t, i < n → t < i → ¬ ((O.getD t 0 : Nat) : Int) = ((O.getD i 0 : Nat) : Int)) := fun i t hi ht => take_apart HN.out.1 (by rw [HOn.out]; exact hi) ht
      have HEnd : Hid (swF zs O n = 65536) := by have := swF_all zs O (by rw [HOn.out]; exact hn1); rwa [HOn.out] at this
      have HPl : Hid (∀ i, i < n → ((O.getD i 0 : Nat) : Int) = ((O.getD i 0 : Nat) : Int)) := fun _ _ => rfl
      clear hw7 H6 HF6 HS HM HL hF47 hR7 k1 k2 k3 HR4 HN HE HI HF0 HF2 HF3 HF23 HOn HPl
      go_wp2
      go_loopw [13, 79] (fun sv iv wr => ∃ j : Nat, j ≤ n ∧ iv = zV j ∧ sv = zV (swF zs O j) ∧ ∃ d, wr = w7.drewN d) (fun _ iv _ => n - (RowKit.intOf iv).toNat)
      case atStart => exact ⟨0, Nat.zero_le _, rfl, rfl, 0, rfl⟩
      case round =>
        obtain ⟨j, hj, rfl, rfl, d, hwr⟩ := hrel
        by_cases hlt : j < n
        · have hlt' : (j : Int) < (n : Int) := by omega
          obtain ⟨cA, cB, cC⟩ : wr.cell? ⟨b1, f1 + j, none⟩ = some (zV ((O.getD j 0 : Nat) : Int)) ∧ wr.cell? ⟨b2, f2 + j, none⟩ = some (zV (wtF zs O j)) ∧ wr.cell? ⟨b3, f3 + j, none⟩ = some (zV ((O.getD j 0 : Nat) : Int)) := by rw [hwr]; exact HK.out j hlt
          obtain ⟨x0, x1⟩ := HW.out j hlt
          obtain ⟨u0, u1⟩ := HSw.out j hj
          have HNx : Hid (swF zs O (j + 1) = swF zs O j + wtF zs O j) := swF_next zs O j
          have d1 : decide (wtF zs O j < 0) = false := by simp; omega
          have HKA : Hid (∀ t, t < n → w7.cell? ⟨b1, f1 + t, none⟩ = some (zV ((O.getD t 0 : Nat) : Int))) := fun t ht => (HK.out t ht).1
          have HWr : Hid (wr = w7.drewN d) := hwr
          have HcB : Hid (w7.cell? ⟨b2, f2 + j, none⟩ = some (zV (wtF zs O j)) ∧ w7.cell? ⟨b1, f1 + j, none⟩ = some (zV ((O.getD j 0 : Nat) : Int))) := ⟨(HK.out j hlt).2.1, (HK.out j hlt).1⟩
          clear hwr
          have HApj : Hid (∀ t, t < j → ¬ ((O.getD t 0 : Nat) : Int) = ((O.getD j 0 : Nat) : Int)) := fun t ht => HAp.out j t hlt ht
          by_cases hj0 : j = 0
          · have d2 : decide ((0 : Int) < (j : Int)) = false := by simp; omega
            have d2n : decide (0 < j) = false := by simp; omega
            clear HK HW HWf HSw HAp HEnd hj0
            generalize wtF zs O j = X at *
            generalize swF zs O j = S at *
            generalize hP : O.getD j 0 = P at *
            go_wp2_with fail
            go_quiet (fail)
            go_wp2
            go_loopw [115] (fun tv wq => ∃ t : Nat, t ≤ j ∧ tv = zV t ∧ ∃ d', wq = w7.drewN d') (fun tv _ => j - (RowKit.intOf tv).toNat)
            case atStart => exact ⟨0, Nat.zero_le _, rfl, d + nq, by rw [HWr.out, World.drewN_drewN]⟩
            case round =>
              obtain ⟨t, ht, rfl, dq, hwq⟩ := hrel
              by_cases hlt2 : t < j
              · have hlt2' : (t : Int) < (j : Int) := by omega
                have htn : (t : Int) < (n : Int) := by omega
                have cT : wr.cell? ⟨b1, f1 + t, none⟩ = some (zV ((O.getD t 0 : Nat) : Int)) := by rw [hwq]; exact HKA.out t (by omega)
                have cJ : wr.cell? ⟨b1, f1 + j, none⟩ = some (zV (P : Int)) := by rw [hwq]; exact HcB.out.2
                have HWq : Hid (wr = w7.drewN dq) := hwq
                clear hwq
                have hne := HApj.out t hlt2
                have hne' : (((O.getD t 0 : Nat) : Int) == (P : Int)) = false := beq_eq_false_iff_ne.2 hne
                clear HKA HApj
                generalize O.getD t 0 = T at *
                go_wp2_with fail
                go_quiet (fail)
                go_wp2
                go_roundw
                case rel => exact ⟨t + 1, hlt2, by go_num, dq + nq, by rw [HWq.out, World.drewN_drewN]⟩
                case measure => simp [RowKit.intOf]; omega
              · obtain rfl : t = j := by omega
                have cX : wr.cell? ⟨b2, f2 + t, none⟩ = some (zV X) := by rw [hwq]; exact HcB.out.1
                have HWq : Hid (wr = w7.drewN dq) := hwq
                clear hwq
                go_wp2
                go_roundw
                case rel => exact ⟨t + 1, hlt, by go_num, by rw [HNx.out], dq, HWq.out⟩
                case measure => simp [RowKit.intOf]; omega
          · obtain ⟨i, hi⟩ : ∃ i, j = i + 1 := ⟨j - 1, by omega⟩
            have d2 : decide ((0 : Int) < (j : Int)) = true := by simp; omega
            have cI : wr.cell? ⟨b2, f2 + i, none⟩ = some (zV (wtF zs O i)) := by rw [HWr.out]; exact (HK.out i (by omega)).2.1
            have hfl := HWf.out i (by omega)
            rw [← hi] at hfl
            have d3 : decide (wtF zs O i < wtF zs O j) = false := by simp; omega
            have e7 : IntKind.i64.wrap ((j : Int) - 1) = (i : Int) := by rw [IntKind.wrap_i64]; omega
            have e8 : (j : Int) - 1 = (i : Int) := by omega
            have hin : (i : Int) < (n : Int) := by omega
            have d2n : decide (0 < j) = true := by simp; omega
            have hpos : 0 < j := by omega
            have hpos' : (0 : Int) < (j : Int) := by omega
            clear HK HW HWf HSw HAp HEnd hfl hi hj0
            generalize wtF zs O j = X at *
            generalize wtF zs O i = Y at *
            generalize swF zs O j = S at *
            generalize hP : O.getD j 0 = P at *
            go_wp2_with fail
            go_quiet (fail)
            go_wp2
            go_loopw [115] (fun tv wq => ∃ t : Nat, t ≤ j ∧ tv = zV t ∧ ∃ d', wq = w7.drewN d') (fun tv _ => j - (RowKit.intOf tv).toNat)
            case atStart => exact ⟨0, Nat.zero_le _, rfl, d + nq, by rw [HWr.out, World.drewN_drewN]⟩
            case round =>
              obtain ⟨t, ht, rfl, dq, hwq⟩ := hrel
              by_cases hlt2 : t < j
              · have hlt2' : (t : Int) < (j : Int) := by omega
                have htn : (t : Int) < (n : Int) := by omega
                have cT : wr.cell? ⟨b1, f1 + t, none⟩ = some (zV ((O.getD t 0 : Nat) : Int)) := by rw [hwq]; exact HKA.out t (by omega)
                have cJ : wr.cell? ⟨b1, f1 + j, none⟩ = some (zV (P : Int)) := by rw [hwq]; exact HcB.out.2
                have HWq : Hid (wr = w7.drewN dq) := hwq
                clear hwq
                have hne := HApj.out t hlt2
                have hne' : (((O.getD t 0 : Nat) : Int) == (P : Int)) = false := beq_eq_false_iff_ne.2 hne
                clear HKA HApj
                generalize O.getD t 0 = T at *
                go_wp2_with fail
                go_quiet (fail)
                go_wp2
                go_roundw
                case rel => exact ⟨t + 1, hlt2, by go_num, dq + nq, by rw [HWq.out, World.drewN_drewN]⟩
                case measure => simp [RowKit.intOf]; omega
              · obtain rfl : t = j := by omega
                have cX : wr.cell? ⟨b2, f2 + t, none⟩ = some (zV X) := by rw [hwq]; exact HcB.out.1
                have HWq : Hid (wr = w7.drewN dq) := hwq
                clear hwq
                go_wp2
                go_roundw
                case rel => exact ⟨t + 1, hlt, by go_num, by rw [HNx.out], dq, HWq.out⟩
                case measure => simp [RowKit.intOf]; omega
        · obtain rfl : j = n := by omega
          rw [HEnd.out]
          have HFz : Hid (Fresh w wr) := by show Fresh _ _; rw [hwr]; exact HF7.out.drewN d
          clear HK HW HWf HSw HAp HEnd hwr
          go_wp2
          go_ret
          exact ⟨by simp, HFz.out⟩

set_option maxRecDepth 100000 in
theorem contract (H : Type) (enc : TypeId × Value → H) (W : World) (base : Nat) (args : Array Value) (ds gs : List (DataW H)) (before : List MemPlace)
    (hval : ∀ (j : Nat) t v, Tryd.f8.params[j]? = some t → args[j]? = some v → Value.okWide Tryd.prog W .any base t v)
    (hW : DataW.Whole enc Tryd.prog Tryd.f8.params.toList Rows.actChoosesSpec.vars false W args.toList ds gs before) 
    (hsz : (DataW.weightsEach Tryd.prog (Tryd.f8.params.toList ++ []) (ds ++ gs)).all (· ≤ reachBytes) = true) (hL : laidMetH Tryd.prog Rows.actChoosesRow.laid W) :
    Calls Tryd.prog 8 args W fun e W' => ∃ v, e = .returned v ∧ Rows.actChoosesSpec.post enc Tryd.prog Tryd.f8 false true false false W args v W' := by
  have hW' := hW
  obtain ⟨p, q, hA0, hV, rfl, hfz, hnd⟩ := hW
  have hA : DataW.TrodAll enc Tryd.prog W 0 (fun _ => true) true Tryd.f8.params.toList args.toList ds p := hA0
  rw [Tryd.params8] at hA hval hsz
  obtain ⟨rfl, rfl⟩ := trodVars_none hV
  obtain ⟨v0, v1, d0, d1, p0, p1, rfl, rfl, rfl, h0, h1⟩ := trodAll_two hA
  obtain ⟨wv, ws, s, k, rfl, hw, hs, _⟩ := router_of (hval 0 51 v0 rfl rfl) h0 hsz (j := 0) rfl rfl
  obtain ⟨h, hh⟩ := arg8 (hval 1 23 v1 rfl rfl) h1 hsz (j := 1) rfl rfl
  refine (walk wv v1 ws h s k W (bend_of_laid hL) hw hh hs).mono fun e W' ⟨he, hk⟩ => ?_
  subst he
  exact ⟨_, rfl, post_law rfl (by kernel_rfl) (by kernel_rfl) hW' rfl hk⟩

set_option maxRecDepth 100000 in
theorem laid_met (os : Os) : laidMet Tryd.prog Rows.actChoosesRow.laid ((layIn (World.holding Tryd.prog os ⟨#[], #[], []⟩)).forCall (fun _ _ => 0) ⟨#[], #[.agg #[.slice none 0 0, .int .i64 0, .int .i64 0], .slice none 0 0], []⟩).memory :=
  laidMet_of_run' 8 (by kernel_rfl) (by kernel_rfl)
set_option maxRecDepth 100000 in
theorem reads (os : Os) {H : Type} (enc : TypeId × Value → H) : ∃ places, DataW.whole enc Tryd.prog ((layIn (World.holding Tryd.prog os ⟨#[], #[], []⟩)).forCall (fun _ _ => 0) ⟨#[], #[.agg #[.slice none 0 0, .int .i64 0, .int .i64 0], .slice none 0 0], []⟩).memory Tryd.f8.params.toList Rows.actChoosesSpec.vars false (#[.agg #[.slice none 0 0, .int .i64 0, .int .i64 0], .slice none 0 0] : Array Value).toList 8 = some ([.agg [.nil, .lit (.int .i64 0), .lit (.int .i64 0)], .nil], [], places) :=
  ⟨[], by kernel_rfl⟩

set_option maxRecDepth 100000 in
theorem lifted (os : Os) (started : os.Started) (H : Type) (enc : TypeId × Value → H) (F : Stop.Interp) :
    ReturnsInHanded {} Tryd.checked os 8 .any ((OpenSpec.ofChange Rows.actChoosesSpec).preRow enc Tryd.prog Tryd.f8 Rows.actChoosesRow.domain false Rows.actChoosesRow.laid) (((OpenSpec.ofChange Rows.actChoosesSpec).at F).post enc Tryd.prog Tryd.f8 false true false false) := by
  obtain ⟨places, hx⟩ := reads os enc
  refine returnsInHanded_of_row (C := Tryd.checked) (s := OpenSpec.ofChange Rows.actChoosesSpec) Tryd.own started (by kernel_rfl) Tryd.func8
    (witness_row_at (enc := enc) (C := Tryd.checked) false (layIn (World.holding Tryd.prog os ⟨#[], #[], []⟩)) #[.agg #[.slice none 0 0, .int .i64 0, .int .i64 0], .slice none 0 0] rfl (by kernel_rfl) (by kernel_rfl) (by kernel_rfl)
      (OpenSpec.preRow_of_cond 8 hx (by kernel_rfl) (fun k hk => by cases hk) (by kernel_rfl) (laid_met os))) ?_
  intro W base args ds gs before hval hW _ hc hsz hL _ _
  exact contract H enc W base args ds gs before hval hW hsz hL

theorem said : Rows.ActChoosesSaid :=
  OpenClaim.holds_of_cond 8 Tryd.f8 rfl rfl rfl rfl rfl rfl rfl ⟨rfl, rfl, rfl, rfl, rfl⟩ rfl rfl rfl rfl rfl (by kernel_rfl) Tryd.func8 (by kernel_rfl)
    (of_decide_eq_true (by kernel_rfl)) (by unfold Func.isWrapper; first | (rw [if_pos (by decide +kernel)]; kernel_rfl) | (rw [if_neg (by decide +kernel)]; exact ⟨rfl, rfl⟩))
    (fun os started H enc _ F => by rw [OpenClaim.pre_eq_preRow]; exact lifted os started H enc F)

theorem plain (f : FuncId) (fn : Func) (hf : Tryd.pinned.checked.prog.funcNamed Rows.actChoosesRow.func = some f) (hfn : Tryd.pinned.checked.prog.funcs[f]? = some fn) :
    false = Tryd.pinned.checked.prog.looks [] ∧ ∀ (j : Nat) t, fn.params[j]? = some t → Tryd.pinned.checked.prog.wantsStandIn t = false := by
  obtain rfl : f = 8 := Option.some.inj ((show Tryd.prog.funcNamed Rows.actChoosesRow.func = some 8 by kernel_rfl).symm.trans hf) |>.symm
  obtain rfl : fn = Tryd.f8 := (Option.some.inj (Tryd.func8.symm.trans hfn)).symm
  refine ⟨by kernel_rfl, fun j t ht => ?_⟩
  have hall : (Tryd.f8.params.toList.all fun u => !Tryd.prog.wantsStandIn u) = true := by kernel_rfl
  exact (show Tryd.prog.wantsStandIn t = false by simpa using List.all_eq_true.1 hall t (Array.mem_toList_iff.2 (Array.mem_of_getElem? ht)))

theorem card : Rows.ActChoosesCardSaid :=
  Claim7.holds_tied_plain_at .later [] _ _ _ _ said (fun _ h => by cases h) (by kernel_rfl) (fun _ h => by cases h) actChooses_row_tie rfl ⟨rfl, rfl⟩ (by kernel_rfl) rfl plain (by kernel_rfl)

end Go.Proofs.YtbppahmcjifflaaDoor.AChooses
namespace Go.Proofs.YtbppahmcjifflaaDoor
theorem actChooses_card : Rows.ActChoosesCardSaid := AChooses.card
end Go.Proofs.YtbppahmcjifflaaDoor
