/-
  For every guide, vocabulary and list of tokens the statement GuideNext answers true.
-/
import Derived.Test.YtdponkpgokncdaaGwe
namespace Go.Proofs.Ytdponkpgokncdaa.GNext
open Go.ChangeShapes Go.WideShapes Go.ChangeAt Go.RowKit Go.Lib Go.Maps

theorem tyI : Ty .i64 3 58 := ⟨Try.underlying58, Try.underlying3, by kernel_rfl, by kernel_rfl⟩
/-- What stands in the boxes, and what each call answers. -/
structure Ks (w W : World) (A : List Bool) (E : List Ed) (T : List (List UInt8)) (M : List Mg) (L : List Int) (gv vv rg rv lv : Value) : Prop where
  fr : Fresh w W
  gn : ∀ d, Fresh W d → ∀ s k, Calls Try.prog 23 #[gv, vv, zV s, zV k] d fun e w' => e = .returned (zV (nxF A E T M s k)) ∧ Fresh d w'
  rn : ∀ d, Fresh W d → ∀ s k, Calls Try.prog 24 #[rg, rv, zV s, zV k] d fun e w' => e = .returned (zV (nxF A E T M s k)) ∧ Fresh d w'
  gs : ∀ d, Fresh W d → Calls Try.prog 25 #[gv, vv, lv] d fun e w' => e = .returned (zV (stA A E T M L L.length)) ∧ Fresh d w'
  rs : ∀ d, Fresh W d → Calls Try.prog 26 #[rg, rv, lv] d fun e w' => e = .returned (zV (stA A E T M L L.length)) ∧ Fresh d w'
  aw : ∀ d, Calls Try.prog 14 #[] d fun e w' => e = .returned (.bool true) ∧ Fresh d w'
/-- The region's state. -/
def NxS (W : World) (gv vv lv : Value) (c3 : Nat) (A : List Bool) (E : List Ed) (T : List (List UInt8)) (M : List Mg) (l : Array Bool) (a : Act) (w : World) : Prop :=
  ∃ (s7 s8 s12 s13 s14 s15 : Value) (p1 p3 : Nat → Prop) (b7 b8 : Nat), a = { tmps := #[gv, vv, lv, .pointer (some ⟨c3, 0, none⟩), .pointer (some ⟨c3 + 1, 0, none⟩), undef, .bool false, s7, s8, undef, undef, undef, s12, s13, s14, s15, undef, undef, undef, undef, undef, undef, undef, undef, undef, undef, undef, undef, undef, undef, undef, undef, undef, undef, undef, undef, undef, undef, undef, undef, undef, undef, undef, undef, undef, undef, undef, undef, undef, undef, undef, undef, undef, undef, undef, undef, undef, undef, undef, undef, undef, undef, undef, undef, undef, undef, undef, undef, undef, undef, undef, undef, undef, undef], defers := [] } ∧ NxI W gv vv A E T M l s7 s8 s12 s13 s14 s15 p1 p3 b7 b8 w
set_option maxHeartbeats 1000000 in
set_option maxRecDepth 100000 in
theorem walk {p : Nat → Prop} (w : World) (acv edv tv mv lv : Value) (A : List Bool) (E : List Ed) (T : List (List UInt8)) (M : List Mg) (L : List Int) (hA : RbL p w acv A) (hE : EdR p w edv E) (hT : TxR p w tv T) (hM : MgR p w mv M) (hM24 : M.length * 24 ≤ 140737488351232) (hL : Rk .i64 p w lv L) :
    Calls Try.prog 6 #[.agg #[acv, edv], .agg #[tv, mv], lv] w fun e w' => e = .returned (.bool true) ∧ Fresh w w' := by
  have HB := show Hid _ from box2 w #[acv, edv] #[tv, mv] 25 49
  have HGG : Hid (∀ X, Fresh w X → Calls Try.prog 9 #[.agg #[acv, edv]] X fun e w' => ∃ tn mn, e = .returned (.agg #[tn, mn]) ∧ RbL (fun b => X.heap.size ≤ b ∧ b < w'.heap.size) w' tn A ∧ EdR (fun b => X.heap.size ≤ b ∧ b < w'.heap.size) w' mn E ∧ Fresh X w') := fun X hX => givenG_any X acv edv A E (hA.fresh hX) (hE.fresh hX)
  have HGW : Hid (∀ X, Fresh w X → Calls Try.prog 22 #[.agg #[tv, mv]] X fun e w' => ∃ tn mn, e = .returned (.agg #[tn, mn]) ∧ TxR (fun b => X.heap.size ≤ b ∧ b < w'.heap.size) w' tn T ∧ MgR (fun b => X.heap.size ≤ b ∧ b < w'.heap.size) w' mn M ∧ Fresh X w') := fun X hX => given_any X tv mv T M (hT.fresh hX) (hM.fresh hX) hM24
  have HKS : Hid (∀ (W : World) (ga ge ta ma : Value), Fresh w W → RbL (fun _ => True) W ga A → EdR (fun _ => True) W ge E → TxR (fun _ => True) W ta T → MgR (fun _ => True) W ma M → Ks w W A E T M L (.agg #[acv, edv]) (.agg #[tv, mv]) (.agg #[ga, ge]) (.agg #[ta, ma]) lv) := fun W ga ge ta ma h1 h2 h3 h4 h5 =>
    ⟨h1, fun d hd s k => gnext_any A E T M acv edv tv mv d (hA.fresh (h1.trans hd (fun _ _ e => e))) (hE.fresh (h1.trans hd (fun _ _ e => e))) (hT.fresh (h1.trans hd (fun _ _ e => e))) (hM.fresh (h1.trans hd (fun _ _ e => e))) s k,
     fun d hd s k => rnext_any A E T M ga ge ta ma d (h2.fresh hd) (h3.fresh hd) (h4.fresh hd) (h5.fresh hd) s k,
     fun d hd => gstate_any A E T M L acv edv tv mv lv d (hA.fresh (h1.trans hd (fun _ _ e => e))) (hE.fresh (h1.trans hd (fun _ _ e => e))) (hT.fresh (h1.trans hd (fun _ _ e => e))) (hM.fresh (h1.trans hd (fun _ _ e => e))) (hL.fresh (h1.trans hd (fun _ _ e => e))),
     fun d hd => rstateT_any A E T M L ga ge ta ma lv d (h2.fresh hd) (h3.fresh hd) (h4.fresh hd) (h5.fresh hd) (hL.fresh (h1.trans hd (fun _ _ e => e))),
     fun d => awakeG_any d⟩
  have HL : Hid (∀ X, Fresh w X → Rk .i64 p X lv L) := fun X hX => hL.fresh hX
  have hmany := hL.many
  obtain ⟨ta, tc, rfl⟩ := hT.shape
  obtain ⟨ma, mc, rfl⟩ := hM.shape
  obtain ⟨ao, ac, rfl⟩ := hA.shape
  obtain ⟨eo, ec, rfl⟩ := hE.shape
  obtain ⟨la, lc, rfl, _, _⟩ := hL.shape
  clear hA hE hT hM hL hM24
  go_enter Try.func6, Try.ntmps6
  go_upto_region 1 with fail
  have HK0 : Hid (Fresh ((w.alloc (.cells #[.slice ao A.length ac, .slice eo E.length ec] 25)).alloc (.cells #[.slice ta T.length tc, .slice ma M.length mc] 49)) ((w.alloc (.cells #[.slice ao A.length ac, .slice eo E.length ec] 25)).alloc (.cells #[.slice ta T.length tc, .slice ma M.length mc] 49))) := Kept.refl _ _
  generalize (w.alloc (.cells #[.slice ao A.length ac, .slice eo E.length ec] 25)).alloc (.cells #[.slice ta T.length tc, .slice ma M.length mc] 49) = W1 at *
  have HX : Hid (∀ X, Fresh W1 X → Fresh w X ∧ X.cell? ⟨w.heap.size, 0, none⟩ = some (.slice ao A.length ac) ∧ X.cell? ⟨w.heap.size, 1, none⟩ = some (.slice eo E.length ec) ∧ X.cell? ⟨w.heap.size + 1, 0, none⟩ = some (.slice ta T.length tc) ∧ X.cell? ⟨w.heap.size + 1, 1, none⟩ = some (.slice ma M.length mc)) := fun X hk => by
    obtain ⟨hf1, hb0, hb1⟩ := HB.out X hk
    exact ⟨hf1, by rw [Lib.cell_of_heap hb0]; rfl, by rw [Lib.cell_of_heap hb0]; rfl, by rw [Lib.cell_of_heap hb1]; rfl, by rw [Lib.cell_of_heap hb1]; rfl⟩
  clear HB HK0
  refine region_inv (by kernel_rfl) (NxS W1 (.agg #[.slice ao A.length ac, .slice eo E.length ec]) (.agg #[.slice ta T.length tc, .slice ma M.length mc]) (.slice la L.length lc) w.heap.size A E T M) (by kernel_rfl) ?step ?start ?done
  case start =>
    exact ⟨_, _, _, _, _, _, fun _ => False, fun _ => False, 0, 0, rfl, ⟨(Kept.refl _ _).drew, fun u => absurd u (not_up0 _ _), fun u => absurd u (not_up0 _ _), fun u => absurd u (not_up0 _ _), fun u => absurd u (not_up0 _ _), fun u => absurd u (not_up0 _ _), fun u => absurd u (not_up0 _ _), fun u => absurd u (not_up0 _ _), fun u => absurd u (not_up0 _ _), fun u => absurd u (not_up0 _ _), fun u => absurd u (not_up0 _ _), fun u => absurd u (not_up0 _ _), fun u => absurd u (not_up0 _ _), fun u => absurd u (not_up0 _ _), fun u => absurd u (not_up0 _ _)⟩⟩
  case step =>
    intro l a X hl hI i o ho hlt hn hd K hK
    obtain ⟨s7, s8, s12, s13, s14, s15, p1, p3, b7, b8, rfl, hI⟩ := hI
    have hlt : i < 8 := hlt
    have hc : i = 0 ∨ i = 1 ∨ i = 2 ∨ i = 3 ∨ i = 4 ∨ i = 5 ∨ i = 6 ∨ i = 7 := by omega
    rcases hc with rfl | rfl | rfl | rfl | rfl | rfl | rfl | rfl
    · simp only [List.getElem?_toArray, List.getElem?_cons_zero, Option.some.injEq] at ho
      subst ho
      clear hd
      obtain ⟨_, x0, x1, _, _⟩ := HX.out X hI.fr
      go_simp
      exact hK _ _ ⟨_, _, _, _, _, _, _, _, _, _, rfl, hI.set0⟩
    · simp only [List.getElem?_toArray, List.getElem?_cons_succ, List.getElem?_cons_zero, Option.some.injEq] at ho
      subst ho
      have h6 : ¬ Up l 6 := fun u => hn (hI.c6 u).2.1
      simp only [Array.mem_def, List.mem_cons, List.not_mem_nil, or_false, forall_eq] at hd
      obtain rfl := hI.c0 (hd rfl)
      go_simp
      refine Calls.mono (HGG.out X (HX.out X hI.fr).1) ?_
      rintro _ Y ⟨x, y, rfl, hA, hE, hf⟩
      exact hK _ _ ⟨_, _, _, _, _, _, _, _, _, _, rfl, hI.set1 hf h6 hA hE⟩
    · simp only [List.getElem?_toArray, List.getElem?_cons_succ, List.getElem?_cons_zero, Option.some.injEq] at ho
      subst ho
      clear hd
      obtain ⟨_, _, _, x0, x1⟩ := HX.out X hI.fr
      go_simp
      exact hK _ _ ⟨_, _, _, _, _, _, _, _, _, _, rfl, hI.set2⟩
    · simp only [List.getElem?_toArray, List.getElem?_cons_succ, List.getElem?_cons_zero, Option.some.injEq] at ho
      subst ho
      have h7 : ¬ Up l 7 := fun u => hn (hI.c7 u).2.1
      simp only [Array.mem_def, List.mem_cons, List.not_mem_nil, or_false, forall_eq_or_imp, forall_eq] at hd
      obtain rfl := hI.c2 (hd.1 rfl)
      go_simp
      refine Calls.mono (HGW.out X (HX.out X hI.fr).1) ?_
      rintro _ Y ⟨x, y, rfl, hA, hE, hf⟩
      exact hK _ _ ⟨_, _, _, _, _, _, _, _, _, _, rfl, hI.set3 hf h7 hA hE⟩
    · simp only [List.getElem?_toArray, List.getElem?_cons_succ, List.getElem?_cons_zero, Option.some.injEq] at ho
      subst ho
      clear hd
      have h6 : ¬ Up l 6 := fun u => hn (hI.c6 u).1
      go_simp
      exact hK _ _ ⟨_, _, _, _, _, _, _, _, _, _, rfl, hI.set4 h6 _ _ _⟩
    · simp only [List.getElem?_toArray, List.getElem?_cons_succ, List.getElem?_cons_zero, Option.some.injEq] at ho
      subst ho
      clear hd
      have h7 : ¬ Up l 7 := fun u => hn (hI.c7 u).1
      go_simp
      exact hK _ _ ⟨_, _, _, _, _, _, _, _, _, _, rfl, hI.set5 h7 _ _ _⟩
    · simp only [List.getElem?_toArray, List.getElem?_cons_succ, List.getElem?_cons_zero, Option.some.injEq] at ho
      subst ho
      simp only [Array.mem_def, List.mem_cons, List.not_mem_nil, or_false, forall_eq_or_imp, forall_eq] at hd
      have u4 : Up l 4 := hd.1 rfl
      have u1 : Up l 1 := hd.2.1 rfl
      have n7 : ¬ Up l 7 := fun u => hn (hI.c67 u)
      obtain ⟨x, y, rfl, hx1, hy1, _⟩ := hI.c1 u1
      obtain ⟨_, _, rfl⟩ := hx1.shape
      obtain ⟨_, _, rfl⟩ := hy1.shape
      clear hx1 hy1
      obtain ⟨rfl, _, ⟨z0, q0⟩, ⟨z1, q1⟩, qf⟩ := hI.c4 u4
      go_simp
      exact hK _ _ ⟨_, _, _, _, _, _, _, _, _, _, rfl, hI.set6 u1 u4 n7 rfl⟩
    · simp only [List.getElem?_toArray, List.getElem?_cons_succ, List.getElem?_cons_zero, Option.some.injEq] at ho
      subst ho
      simp only [Array.mem_def, List.mem_cons, List.not_mem_nil, or_false, forall_eq_or_imp, forall_eq] at hd
      have u5 : Up l 5 := hd.1 rfl
      have u3 : Up l 3 := hd.2.1 rfl
      have u6 : Up l 6 := hd.2.2.1 rfl
      obtain ⟨x, y, rfl, hx1, hy1, _⟩ := hI.c3 u3
      obtain ⟨_, _, rfl⟩ := hx1.shape
      obtain ⟨_, _, rfl⟩ := hy1.shape
      clear hx1 hy1
      obtain ⟨rfl, _, ⟨z0, q0⟩, ⟨z1, q1⟩, qf⟩ := hI.c5 u5
      go_simp
      exact hK _ _ ⟨_, _, _, _, _, _, _, _, _, _, rfl, hI.set7 u3 u5 u6 rfl⟩
  case done =>
    intro l a X hI hall0
    obtain ⟨s7, s8, s12, s13, s14, s15, p1, p3, b7, b8, rfl, hI⟩ := hI
    have hall : ∀ i, i < 8 → Up l i := hall0
    clear hall0
    obtain ⟨rfl, _, _⟩ := hI.c4 (hall 4 (by decide))
    obtain ⟨rfl, _, _⟩ := hI.c5 (hall 5 (by decide))
    obtain ⟨_, _, gx, gy, ge, g0, g1⟩ := hI.c6 (hall 6 (by decide))
    obtain ⟨_, _, vx, vy, ve, k0, k1⟩ := hI.c7 (hall 7 (by decide))
    obtain ⟨gx', gy', ge', hA, hE, _⟩ := hI.c1 (hall 1 (by decide))
    obtain ⟨vx', vy', ve', hT, hM, _⟩ := hI.c3 (hall 3 (by decide))
    rw [ge] at ge'
    rw [ve] at ve'
    injection ge' with ge'
    injection ve' with ve'
    simp only [Array.mk.injEq, List.cons.injEq, and_true] at ge' ve'
    obtain ⟨rfl, rfl⟩ := ge'
    obtain ⟨rfl, rfl⟩ := ve'
    have hKS := HKS.out X gx gy vx vy (HX.out X hI.fr).1 (hA.mono (fun _ _ => trivial)) (hE.mono (fun _ _ => trivial)) (hT.mono (fun _ _ => trivial)) (hM.mono (fun _ _ => trivial))
    have HXX : Hid (Fresh W1 X) := hI.fr
    have HCL := show Hid (∀ Y, Fresh X Y → Y.cell? ⟨w.heap.size, 0, none⟩ = some (.slice ao A.length ac) ∧ Y.cell? ⟨w.heap.size, 1, none⟩ = some (.slice eo E.length ec) ∧ Y.cell? ⟨w.heap.size + 1, 0, none⟩ = some (.slice ta T.length tc) ∧ Y.cell? ⟨w.heap.size + 1, 1, none⟩ = some (.slice ma M.length mc) ∧ Y.cell? ⟨b7, 0, none⟩ = some gx ∧ Y.cell? ⟨b7, 1, none⟩ = some gy ∧ Y.cell? ⟨b8, 0, none⟩ = some vx ∧ Y.cell? ⟨b8, 1, none⟩ = some vy) from fun Y hY => by
      have l7 := (hI.c4 (hall 4 (by decide))).2.2.lt
      have l8 := (hI.c5 (hall 5 (by decide))).2.2.lt
      obtain ⟨_, a0, a1, a2, a3⟩ := HX.out Y (hI.fr.trans hY (fun _ _ e => e))
      exact ⟨a0, a1, a2, a3, (hY.cell (p := ⟨b7, 0, none⟩) l7 (fun e => e)).trans g0, (hY.cell (p := ⟨b7, 1, none⟩) l7 (fun e => e)).trans g1, (hY.cell (p := ⟨b8, 0, none⟩) l8 (fun e => e)).trans k0, (hY.cell (p := ⟨b8, 1, none⟩) l8 (fun e => e)).trans k1⟩
    have HRW := show Hid (∀ Y, Fresh X Y → 0 < L.length → ∃ b off, la = some ⟨b, off, none⟩ ∧ ∀ i, i < L.length → Y.cell? ⟨b, off + i, none⟩ = some (.int .i64 (L.getD i 0))) from fun Y hY h0 => by
      obtain ⟨b, off, h1, _, _, h2⟩ := (HL.out Y (((HX.out X hI.fr).1).trans hY (fun _ _ e => e))).cells.2.2.2 h0
      exact ⟨b, off, h1, h2⟩
    obtain ⟨go1, gc1, rfl⟩ := hA.shape
    obtain ⟨go2, gc2, rfl⟩ := hE.shape
    obtain ⟨go3, gc3, rfl⟩ := hT.shape
    obtain ⟨go4, gc4, rfl⟩ := hM.shape
    have HST : Hid (∀ i, stA A E T M L (i + 1) = nxF A E T M (stA A E T M L i) (L.getD i 0)) := fun i => rfl
    have HS0 : Hid (stA A E T M L 0 = 0) := rfl
    have HGN : Hid _ := hKS.gn
    have HRN : Hid _ := hKS.rn
    have HGS : Hid _ := hKS.gs
    have HRS : Hid _ := hKS.rs
    have HAW : Hid _ := hKS.aw
    have HFW : Hid (Fresh w X) := hKS.fr
    clear hKS HKS HGG HGW HX HL hall hI hA hE hT hM ge ve g0 g1 k0 k1 HXX
    generalize stA A E T M L = S at *
    generalize nxF A E T M = F at *
    generalize L.length = n at *
    go_simp
    go_wp2
    go_loopw [9, 10] (fun sv iv wr => ∃ (i : Nat), i ≤ n ∧ sv = zV (S i) ∧ iv = zV i ∧ Fresh X wr) (fun _ iv _ => n - (RowKit.intOf iv).toNat)
    case atStart => exact ⟨0, Nat.zero_le _, by rw [HS0.out], rfl, Kept.refl _ _⟩
    case round =>
      obtain ⟨i, hi, rfl, rfl, hwr⟩ := hrel
      by_cases hlt : i < n
      · have hlt' : (i : Int) < (n : Int) := by omega
        have h0i : (0 : Int) ≤ (i : Int) := by omega
        have HWR : Hid (Fresh X wr) := hwr
        obtain ⟨rb, ro, rfl, hrow⟩ := HRW.out wr hwr (by omega)
        have HRC : Hid (∀ Y, Fresh wr Y → Y.cell? ⟨rb, ro + i, none⟩ = some (.int .i64 (L.getD i 0))) := fun Y hY => by
          obtain ⟨rb', ro', he, hrow'⟩ := HRW.out Y (hwr.trans hY (fun _ _ e => e)) (by omega)
          injection he with he
          injection he with e1 e2
          subst e1
          subst e2
          exact hrow' i hlt
        clear hrow hwr HRW
        have HN1 := show Hid _ from HST.out i
        generalize L.getD i 0 = kk at *
        have K1 : Hid (∀ d : Nw wr, Calls Try.prog 23 #[.agg #[.slice ao A.length ac, .slice eo E.length ec], .agg #[.slice ta T.length tc, .slice ma M.length mc], zV (S i), zV kk] d.w fun e w' => e = .returned (zV (S (i + 1))) ∧ Fresh d.w w') := fun d => by
          rw [HN1.out]
          exact HGN.out d.w (HWR.out.trans d.f (fun _ _ e => e)) (S i) kk
        have u0 : ∀ d : Nw wr, d.w.cell? ⟨w.heap.size, 0, none⟩ = some (.slice ao A.length ac) := fun d => (HCL.out d.w (HWR.out.trans d.f (fun _ _ e => e))).1
        have u1 : ∀ d : Nw wr, d.w.cell? ⟨w.heap.size, 1, none⟩ = some (.slice eo E.length ec) := fun d => (HCL.out d.w (HWR.out.trans d.f (fun _ _ e => e))).2.1
        have u2 : ∀ d : Nw wr, d.w.cell? ⟨w.heap.size + 1, 0, none⟩ = some (.slice ta T.length tc) := fun d => (HCL.out d.w (HWR.out.trans d.f (fun _ _ e => e))).2.2.1
        have u3 : ∀ d : Nw wr, d.w.cell? ⟨w.heap.size + 1, 1, none⟩ = some (.slice ma M.length mc) := fun d => (HCL.out d.w (HWR.out.trans d.f (fun _ _ e => e))).2.2.2.1
        have u4 : ∀ d : Nw wr, d.w.cell? ⟨rb, ro + i, none⟩ = some (.int .i64 kk) := fun d => HRC.out d.w d.f
        generalize hz1 : S (i + 1) = z1 at *
        have HZ1 : Hid (S (i + 1) = z1) := hz1
        clear hz1
        go_upto_region 6 with fail
        haveI : Nonempty (Nw wr) := nw_some wr
        refine wp_region_new (by kernel_rfl) (by kernel_rfl) ?_
        repeat (go_big_quiet_step (with_reducible exact Calls.new_of (K1.out _)))
        refine wpQuiet_nil ?_
        intro _ hw'
        obtain ⟨d1, hw''⟩ := hw'
        subst hw''
        clear u0 u1 u2 u3 u4 K1
        obtain ⟨Y, hY⟩ : ∃ Y, d1.w = Y := ⟨_, rfl⟩
        have HY : Hid (Fresh wr Y) := hY ▸ d1.f
        rw [hY]
        clear hY this
        have K2 : Hid (∀ d : Nw Y, Calls Try.prog 24 #[.agg #[(.slice go1 A.length gc1), (.slice go2 E.length gc2)], .agg #[(.slice go3 T.length gc3), (.slice go4 M.length gc4)], zV (S i), zV kk] d.w fun e w' => e = .returned (zV z1) ∧ Fresh d.w w') := fun d => by
          rw [HN1.out]
          exact HRN.out d.w (HWR.out.trans (HY.out.trans d.f (fun _ _ e => e)) (fun _ _ e => e)) (S i) kk
        have K3 : Hid (∀ d : Nw Y, Calls Try.prog 23 #[.agg #[.slice ao A.length ac, .slice eo E.length ec], .agg #[.slice ta T.length tc, .slice ma M.length mc], zV ((i : Int) - 1), zV kk] d.w fun e w' => e = .returned (zV (F ((i : Int) - 1) kk)) ∧ Fresh d.w w') := fun d => HGN.out d.w (HWR.out.trans (HY.out.trans d.f (fun _ _ e => e)) (fun _ _ e => e)) _ kk
        have K4 : Hid (∀ d : Nw Y, Calls Try.prog 24 #[.agg #[(.slice go1 A.length gc1), (.slice go2 E.length gc2)], .agg #[(.slice go3 T.length gc3), (.slice go4 M.length gc4)], zV ((i : Int) - 1), zV kk] d.w fun e w' => e = .returned (zV (F ((i : Int) - 1) kk)) ∧ Fresh d.w w') := fun d => HRN.out d.w (HWR.out.trans (HY.out.trans d.f (fun _ _ e => e)) (fun _ _ e => e)) _ kk
        have HCY : Hid (∀ d : Nw Y, Fresh X d.w) := fun d => HWR.out.trans (HY.out.trans d.f (fun _ _ e => e)) (fun _ _ e => e)
        have u0 : ∀ d : Nw Y, d.w.cell? ⟨w.heap.size, 0, none⟩ = some (.slice ao A.length ac) := fun d => (HCL.out d.w (HCY.out d)).1
        have u1 : ∀ d : Nw Y, d.w.cell? ⟨w.heap.size, 1, none⟩ = some (.slice eo E.length ec) := fun d => (HCL.out d.w (HCY.out d)).2.1
        have u2 : ∀ d : Nw Y, d.w.cell? ⟨w.heap.size + 1, 0, none⟩ = some (.slice ta T.length tc) := fun d => (HCL.out d.w (HCY.out d)).2.2.1
        have u3 : ∀ d : Nw Y, d.w.cell? ⟨w.heap.size + 1, 1, none⟩ = some (.slice ma M.length mc) := fun d => (HCL.out d.w (HCY.out d)).2.2.2.1
        have u5 : ∀ d : Nw Y, d.w.cell? ⟨b7, 0, none⟩ = some (.slice go1 A.length gc1) := fun d => (HCL.out d.w (HCY.out d)).2.2.2.2.1
        have u6 : ∀ d : Nw Y, d.w.cell? ⟨b7, 1, none⟩ = some (.slice go2 E.length gc2) := fun d => (HCL.out d.w (HCY.out d)).2.2.2.2.2.1
        have u7 : ∀ d : Nw Y, d.w.cell? ⟨b8, 0, none⟩ = some (.slice go3 T.length gc3) := fun d => (HCL.out d.w (HCY.out d)).2.2.2.2.2.2.1
        have u8 : ∀ d : Nw Y, d.w.cell? ⟨b8, 1, none⟩ = some (.slice go4 M.length gc4) := fun d => (HCL.out d.w (HCY.out d)).2.2.2.2.2.2.2
        have u4 : ∀ d : Nw Y, d.w.cell? ⟨rb, ro + i, none⟩ = some (.int .i64 kk) := fun d => HRC.out d.w (HY.out.trans d.f (fun _ _ e => e))
        have hsub : IntKind.i64.wrap ((i : Int) - 1) = (i : Int) - 1 := by rw [IntKind.wrap_i64]; omega
        generalize hz2 : F ((i : Int) - 1) kk = z2 at *
        have hb1 : (z1 != z1) = false := by simp
        have hb2 : (z2 != z2) = false := by simp
        clear hz2
        go_wp2_with fail
        haveI : Nonempty (Nw Y) := nw_some Y
        refine wp_region_new (by kernel_rfl) (by kernel_rfl) ?_
        repeat (go_big_quiet_step ((first | (with_reducible exact Calls.new_of (K2.out _)) | (with_reducible exact Calls.new_of (K3.out _)) | (with_reducible exact Calls.new_of (K4.out _)))))
        refine wpQuiet_nil ?_
        intro _ hw'
        obtain ⟨d2, hw''⟩ := hw'
        subst hw''
        have HD2 : Hid (Fresh X d2.w) := HCY.out d2
        clear u0 u1 u2 u3 u4 u5 u6 u7 u8 K2 K3 K4
        go_wp2
        go_roundw
        case rel => exact ⟨i + 1, hlt, by rw [HZ1.out], by go_num, HD2.out⟩
        case measure => simp [RowKit.intOf]; omega
      · obtain rfl : i = n := by omega
        have hlt' : ¬ ((i : Int) < (i : Int)) := by omega
        have K2 : Hid (∀ d : Nw wr, Calls Try.prog 25 #[.agg #[.slice ao A.length ac, .slice eo E.length ec], .agg #[.slice ta T.length tc, .slice ma M.length mc], .slice la i lc] d.w fun e w' => e = .returned (zV (S i)) ∧ Fresh d.w w') := fun d => HGS.out d.w (hwr.trans d.f (fun _ _ e => e))
        have K3 : Hid (∀ d : Nw wr, Calls Try.prog 26 #[.agg #[(.slice go1 A.length gc1), (.slice go2 E.length gc2)], .agg #[(.slice go3 T.length gc3), (.slice go4 M.length gc4)], .slice la i lc] d.w fun e w' => e = .returned (zV (S i)) ∧ Fresh d.w w') := fun d => HRS.out d.w (hwr.trans d.f (fun _ _ e => e))
        have K4 : Hid (∀ d : Nw wr, Calls Try.prog 14 #[] d.w fun e w' => e = .returned (.bool true) ∧ Fresh d.w w') := fun d => HAW.out d.w
        have HCY : Hid (∀ d : Nw wr, Fresh X d.w) := fun d => hwr.trans d.f (fun _ _ e => e)
        have u0 : ∀ d : Nw wr, d.w.cell? ⟨w.heap.size, 0, none⟩ = some (.slice ao A.length ac) := fun d => (HCL.out d.w (HCY.out d)).1
        have u1 : ∀ d : Nw wr, d.w.cell? ⟨w.heap.size, 1, none⟩ = some (.slice eo E.length ec) := fun d => (HCL.out d.w (HCY.out d)).2.1
        have u2 : ∀ d : Nw wr, d.w.cell? ⟨w.heap.size + 1, 0, none⟩ = some (.slice ta T.length tc) := fun d => (HCL.out d.w (HCY.out d)).2.2.1
        have u3 : ∀ d : Nw wr, d.w.cell? ⟨w.heap.size + 1, 1, none⟩ = some (.slice ma M.length mc) := fun d => (HCL.out d.w (HCY.out d)).2.2.2.1
        have u5 : ∀ d : Nw wr, d.w.cell? ⟨b7, 0, none⟩ = some (.slice go1 A.length gc1) := fun d => (HCL.out d.w (HCY.out d)).2.2.2.2.1
        have u6 : ∀ d : Nw wr, d.w.cell? ⟨b7, 1, none⟩ = some (.slice go2 E.length gc2) := fun d => (HCL.out d.w (HCY.out d)).2.2.2.2.2.1
        have u7 : ∀ d : Nw wr, d.w.cell? ⟨b8, 0, none⟩ = some (.slice go3 T.length gc3) := fun d => (HCL.out d.w (HCY.out d)).2.2.2.2.2.2.1
        have u8 : ∀ d : Nw wr, d.w.cell? ⟨b8, 1, none⟩ = some (.slice go4 M.length gc4) := fun d => (HCL.out d.w (HCY.out d)).2.2.2.2.2.2.2
        generalize S i = z1 at *
        have hb1 : (z1 == z1) = true := beq_self_eq_true _
        clear HRW HCL
        go_wp2_with fail
        haveI : Nonempty (Nw wr) := nw_some wr
        refine wp_region_new (by kernel_rfl) (by kernel_rfl) ?_
        repeat (go_big_quiet_step ((first | (with_reducible exact Calls.new_of (K2.out _)) | (with_reducible exact Calls.new_of (K3.out _)) | (with_reducible exact Calls.new_of (K4.out _)))))
        refine wpQuiet_nil ?_
        intro _ hw'
        obtain ⟨d2, hw''⟩ := hw'
        subst hw''
        have HD2 : Hid (Fresh w d2.w) := HFW.out.trans (HCY.out d2) (fun _ _ e => e)
        clear u0 u1 u2 u3 u5 u6 u7 u8 K2 K3 K4
        go_wp2
        go_ret
        exact ⟨rfl, HD2.out⟩

set_option maxRecDepth 100000 in
theorem contract (H : Type) (enc : TypeId × Value → H) (W : World) (base : Nat) (args : Array Value) (ds gs : List (DataW H)) (before : List MemPlace)
    (hval : ∀ (j : Nat) t v, Try.f6.params[j]? = some t → args[j]? = some v → Value.okWide Try.prog W .any base t v)
    (hW : DataW.Whole enc Try.prog Try.f6.params.toList Rows.guideNextSpec.vars false W args.toList ds gs before) 
    (hsz : (DataW.weightsEach Try.prog (Try.f6.params.toList ++ []) (ds ++ gs)).all (· ≤ reachBytes) = true) (hL : laidMetH Try.prog Rows.guideNextRow.laid W) :
    Calls Try.prog 6 args W fun e W' => ∃ v, e = .returned v ∧ Rows.guideNextSpec.post enc Try.prog Try.f6 false true false false W args v W' := by
  have hW' := hW
  obtain ⟨p, q, hA0, hV, rfl, hfz, hnd⟩ := hW
  have hA : DataW.TrodAll enc Try.prog W 0 (fun _ => true) true Try.f6.params.toList args.toList ds p := hA0
  rw [Try.params6] at hA hval hsz
  obtain ⟨rfl, rfl⟩ := trodVars_none hV
  have _hL := hL
  obtain ⟨v0, v1, v2, d0, d1, d2, p0, p1, p2, rfl, rfl, rfl, h0, h1, h2⟩ := trodAll_three hA
  obtain ⟨acv, edv, A, E, rfl, hA', hE'⟩ := guide_of (hval 0 25 v0 rfl rfl) h0 hsz (j := 0) rfl rfl
  obtain ⟨tv, mv, T, M, rfl, hT, hM, hM24⟩ := voc_of (hval 1 49 v1 rfl rfl) h1 hsz (j := 1) rfl rfl
  obtain ⟨lo, ln, lcap, rfl⟩ := okWide_slice Try.underlying58 (hval 2 58 v2 rfl rfl)
  obtain ⟨fuel, hf⟩ := h2
  obtain ⟨ys, hy, hy2⟩ := row_of tyI (x := (d2, _)) hf (fun es sp e => by
    have e' : d2 = .slice es sp := e
    subst e'
    have := sized_slice hsz (j := 2) (t := 58) (e := 3) rfl rfl Try.underlying58
    rw [Try.bInt] at this
    simp only [reachBytes] at this
    simp [kb]
    omega)
  refine (walk W acv edv tv mv _ A E T M ys hA' hE' hT hM hM24 hy).mono fun e W' ⟨he, hk⟩ => ?_
  subst he
  exact ⟨_, rfl, post_law rfl (by kernel_rfl) (by kernel_rfl) hW' rfl hk⟩

set_option maxRecDepth 100000 in
theorem laid_met (os : Os) : laidMet Try.prog Rows.guideNextRow.laid ((layIn (World.holding Try.prog os ⟨#[], #[], []⟩)).forCall (fun _ _ => 0) ⟨#[], #[.agg #[.slice none 0 0, .slice none 0 0], .agg #[.slice none 0 0, .slice none 0 0], .slice none 0 0], []⟩).memory :=
  laidMet_of_run' 8 (by kernel_rfl) (by kernel_rfl)
set_option maxRecDepth 100000 in
theorem reads (os : Os) {H : Type} (enc : TypeId × Value → H) : ∃ places, DataW.whole enc Try.prog ((layIn (World.holding Try.prog os ⟨#[], #[], []⟩)).forCall (fun _ _ => 0) ⟨#[], #[.agg #[.slice none 0 0, .slice none 0 0], .agg #[.slice none 0 0, .slice none 0 0], .slice none 0 0], []⟩).memory Try.f6.params.toList Rows.guideNextSpec.vars false (#[.agg #[.slice none 0 0, .slice none 0 0], .agg #[.slice none 0 0, .slice none 0 0], .slice none 0 0] : Array Value).toList 8 = some ([.agg [.nil, .nil], .agg [.nil, .nil], .nil], [], places) :=
  ⟨[], by kernel_rfl⟩

set_option maxRecDepth 100000 in
theorem lifted (os : Os) (started : os.Started) (H : Type) (enc : TypeId × Value → H) (F : Stop.Interp) :
    ReturnsInHanded {} Try.checked os 6 .any ((OpenSpec.ofChange Rows.guideNextSpec).preRow enc Try.prog Try.f6 Rows.guideNextRow.domain false Rows.guideNextRow.laid) (((OpenSpec.ofChange Rows.guideNextSpec).at F).post enc Try.prog Try.f6 false true false false) := by
  obtain ⟨places, hx⟩ := reads os enc
  refine returnsInHanded_of_row (C := Try.checked) (s := OpenSpec.ofChange Rows.guideNextSpec) Try.own started (by kernel_rfl) Try.func6
    (witness_row_at (enc := enc) (C := Try.checked) false (layIn (World.holding Try.prog os ⟨#[], #[], []⟩)) #[.agg #[.slice none 0 0, .slice none 0 0], .agg #[.slice none 0 0, .slice none 0 0], .slice none 0 0] rfl (by kernel_rfl) (by kernel_rfl) (by kernel_rfl)
      (OpenSpec.preRow_of_cond 8 hx (by kernel_rfl) (fun k hk => by cases hk) (by kernel_rfl) (laid_met os))) ?_
  intro W base args ds gs before hval hW _ hc hsz hL _ _
  exact contract H enc W base args ds gs before hval hW hsz hL

theorem said : Rows.GuideNextSaid :=
  OpenClaim.holds_of_cond 6 Try.f6 rfl rfl rfl rfl rfl rfl rfl ⟨rfl, rfl, rfl, rfl, rfl⟩ rfl rfl rfl rfl rfl (by kernel_rfl) Try.func6 (by kernel_rfl)
    (of_decide_eq_true (by kernel_rfl)) (by unfold Func.isWrapper; first | (rw [if_pos (by decide +kernel)]; kernel_rfl) | (rw [if_neg (by decide +kernel)]; exact ⟨rfl, rfl⟩))
    (fun os started H enc _ F => by rw [OpenClaim.pre_eq_preRow]; exact lifted os started H enc F)


end Go.Proofs.Ytdponkpgokncdaa.GNext
namespace Go.Proofs.Ytdponkpgokncdaa
theorem guideNext_holds : Rows.GuideNextSaid := GNext.said
end Go.Proofs.Ytdponkpgokncdaa
