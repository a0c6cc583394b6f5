/-
  For all ints places and half the statement RopeMemory answers true: awake does; Table answers what the document's answers, also behind all that is stored into the lists that came out and appended to them; its card, tied to the program's text.
-/
import Derived.Test.YtkemaofclahaiaaDoorRoh
import Derived.Test.YtkemaofclahaiaaDoorRpM
import Derived.Test.YtkemaofclahaiaaDoorRoi
import Derived.Test.YtkemaofclahaiaaDoorRoM
namespace Go.Proofs.YtkemaofclahaiaaDoor.RMemory
open Go.ChangeShapes Go.WideShapes Go.ChangeAt Go.RowKit Go.Lib Go.Maps

set_option maxHeartbeats 40000000 in
set_option maxRecDepth 100000 in
theorem walk (places half : Int) (w : World) (hS : Sin w) :
    Calls Tryd.prog 7 #[zV places, zV half] w fun e w' => e = .returned (.bool true) ∧ Fresh w w' := by
  have HAW : Hid (Unit → _) := fun (_ : Unit) => awake_any w hS
  have HS : Hid (Sin w) := hS
  clear hS
  go_enter Tryd.func7, Tryd.ntmps7
  go_wp2_with fail
  refine (HAW.out ()).mono ?_
  rintro e w1 ⟨rfl, hF1⟩
  have HF1 : Hid (Fresh w w1) := hF1
  have HS1 : Hid (∀ W, Fresh w1 W → Sin W) := fun W hW => (HS.out.fresh hF1).fresh hW
  clear HAW hF1 HS
  have HI : Hid (((cosL places half 1 1).length * kb .i8 ≤ 140737488351232 ∧ ∀ z ∈ cosL places half 1 1, Fit .i8 z) ∧ (sinL places half 1 1).length * kb .i8 ≤ 140737488351232 ∧ ∀ z ∈ sinL places half 1 1, Fit .i8 z) := ⟨⟨cosL_fits _ _ _ _, cosL_c8 _ _ _ _⟩, sinL_fits _ _ _ _, sinL_c8 _ _ _ _⟩
  go_wp2_with fail
  refine (Table_any places half w1 (HS1.out _ (Kept.refl _ _))).mono ?_
  rintro e w2 hG
  obtain ⟨c, s, rfl, hr2, hF2⟩ := hG.rs
  have HF2 : Hid (Fresh w1 w2) := hF2
  have HR2 : Hid (Rs w1.heap.size w2 _) := hr2
  clear hG hr2 hF2
  go_wp2_with fail
  refine (Table_any places half w2 (HS1.out _ HF2.out)).mono ?_
  rintro e w3 hG
  obtain ⟨d, t, rfl, hr3, hF3⟩ := hG.rs
  have HF3 : Hid (Fresh w1 w3) := HF2.out.trans hF3 (fun _ _ e => e)
  have HR3 : Hid (Rs w1.heap.size w3 _) := Rs.join HR2.out hF3 HF2.out.size hr3
  clear hG hr3 hF3 HR2 HF2
  go_wp2_with fail
  refine (refTable_any places half w3).mono ?_
  rintro e w4 hG
  obtain ⟨a, b, rfl, hr4, hF4⟩ := hG.rs
  have HF4 : Hid (Fresh w1 w4) := HF3.out.trans hF4 (fun _ _ e => e)
  have hR4 : Rs w1.heap.size w4 [R8 c (cosL places half 1 1), R8 s (sinL places half 1 1), R8 d (cosL places half 1 1), R8 t (sinL places half 1 1), R8 a (cosL places half 1 1), R8 b (sinL places half 1 1)] := Rs.join HR3.out hF4 HF3.out.size hr4
  have HR4 : Hid (∀ W, Fresh w4 W → Rs w1.heap.size W [R8 c (cosL places half 1 1), R8 s (sinL places half 1 1), R8 d (cosL places half 1 1), R8 t (sinL places half 1 1), R8 a (cosL places half 1 1), R8 b (sinL places half 1 1)]) := fun W hW => hR4.fresh hW
  have HSm : Hid (∀ W, Fresh w4 W → (∀ u ∈ [c, d], Calls Tryd.prog 12 #[u, a] W fun e w' => e = .returned (.bool true) ∧ ∃ n, w' = W.drewN n) ∧ (∀ u ∈ [s, t], Calls Tryd.prog 12 #[u, b] W fun e w' => e = .returned (.bool true) ∧ ∃ n, w' = W.drewN n)) := fun W hW => by
    have hR := HR4.out W hW
    refine ⟨fun u hu => same_any _ _ _ _ _ W (hR.rk (u := u) (x := cosL places half 1 1) ?_ HI.out.1.1 HI.out.1.2) (hR.rk (u := a) (x := cosL places half 1 1) (by simp) HI.out.1.1 HI.out.1.2), fun u hu => same_any _ _ _ _ _ W (hR.rk (u := u) (x := sinL places half 1 1) ?_ HI.out.2.1 HI.out.2.2) (hR.rk (u := b) (x := sinL places half 1 1) (by simp) HI.out.2.1 HI.out.2.2)⟩
    · simp only [List.mem_cons, List.not_mem_nil, or_false] at hu
      rcases hu with e | e <;> subst e <;> simp
    · simp only [List.mem_cons, List.not_mem_nil, or_false] at hu
      rcases hu with e | e <;> subst e <;> simp
  clear hG hr4 hF4 HR3 HF3 hR4
  obtain ⟨E, hE⟩ : ∃ E, stE places half 1 1 = E := ⟨_, rfl⟩
  rw [hE]
  go_wp2_with fail
  refine ((HSm.out w4 (Kept.refl _ _)).1 c (by simp)).mono ?_
  rintro e w5 ⟨rfl, n5, hw5⟩
  have HF5 : Hid (Fresh w4 w5) := by show Fresh _ _; rw [hw5]; exact kept_drewN _ _ _
  clear hw5
  go_wp2_with fail
  refine ((HSm.out w5 HF5.out).2 s (by simp)).mono ?_
  rintro e w6 ⟨rfl, n6, hw6⟩
  have HF6 : Hid (Fresh w4 w6) := by show Fresh _ _; rw [hw6]; exact HF5.out.drewN n6
  clear hw6 HF5
  go_wp2_with fail
  refine ((HSm.out w6 HF6.out).1 d (by simp)).mono ?_
  rintro e w7 ⟨rfl, n7, hw7⟩
  have HF7 : Hid (Fresh w4 w7) := by show Fresh _ _; rw [hw7]; exact HF6.out.drewN n7
  clear hw7 HF6
  go_wp2_with fail
  refine ((HSm.out w7 HF7.out).2 t (by simp)).mono ?_
  rintro e w8 ⟨rfl, n8, hw8⟩
  have HF8 : Hid (Fresh w4 w8) := by show Fresh _ _; rw [hw8]; exact HF7.out.drewN n8
  clear hw8 HF7 HSm
  rcases stE_two places half with hE2 | ⟨P, h, rfl, rfl, p1, p2, q1, q2, hE2⟩
  · have hE3 : E = 102 := hE.symm.trans hE2
    subst hE3
    have HX : Hid (Fresh w w8) := HF1.out.trans (HF4.out.trans HF8.out (fun _ _ e => e)) (fun _ _ e => e)
    clear HR4 HF8
    go_wp2
    go_ret
    exact ⟨rfl, HX.out⟩
  have hE3 : E = 0 := hE.symm.trans hE2
  subst hE3
  have hR8 := HR4.out w8 HF8.out
  have hl1 : (cosL P h 1 1).length = P * h := by rw [cosL_ok hE2, mkL_len]
  have hl2 : (sinL P h 1 1).length = P * h := by rw [sinL_ok hE2, mkL_len]
  have hPh : P * h ≤ 16384 := by have := Nat.mul_le_mul p2 q2; omega
  have hPh2 : h ≤ P * h := by have := Nat.mul_le_mul_right h p1; omega
  obtain ⟨n, hn⟩ : ∃ n, P * h = n := ⟨_, rfl⟩
  rw [hn] at hl1 hl2 hPh hPh2
  have kc := hR8.rk (u := c) (x := cosL P h 1 1) (by simp) HI.out.1.1 HI.out.1.2
  have kd := hR8.rk (u := d) (x := cosL P h 1 1) (by simp) HI.out.1.1 HI.out.1.2
  have kt := hR8.rk (u := t) (x := sinL P h 1 1) (by simp) HI.out.2.1 HI.out.2.2
  have ks := hR8.rk (u := s) (x := sinL P h 1 1) (by simp) HI.out.2.1 HI.out.2.2
  obtain ⟨co, cc, hcv, _⟩ := kc.shape
  obtain ⟨ddo, dc, hdv, _⟩ := kd.shape
  obtain ⟨tto, tc, htv, _⟩ := kt.shape
  obtain ⟨so, sc, hsv, _⟩ := ks.shape
  rw [hl1] at hcv hdv
  rw [hl2] at htv hsv
  subst hcv hdv htv hsv
  obtain ⟨_, hcc, _, hc1⟩ := kc.cells
  obtain ⟨_, hdc, _, hd1⟩ := kd.cells
  obtain ⟨_, htc, _, ht1⟩ := kt.cells
  obtain ⟨_, hsc, _, hs1⟩ := ks.cells
  obtain ⟨cb, cf, rfl, _⟩ := hc1 (by omega)
  obtain ⟨db, df, rfl, _⟩ := hd1 (by omega)
  obtain ⟨tb, tf, rfl, _⟩ := ht1 (by omega)
  obtain ⟨sb, sf, rfl, _⟩ := hs1 (by omega)
  have hFa : Fresh w8 (w8.alloc (.cells #[] 33)) := (Kept.refl _ _).alloc _
  have hCl : ((cosL P h 1 1).take h).length = h := by rw [List.length_take, hl1]; omega
  have hCne : (cosL P h 1 1).take h ≠ [] := fun e => by rw [e] at hCl; simp at hCl; omega
  obtain ⟨xv, W1, hx1, hx2, hx3⟩ := twin1 ty8 22 (w8.alloc (.cells #[] 33)) ⟨w8.heap.size, 0, none⟩ _ _ _ ((kc.pre h hPh2).fresh hFa) hCne
  have hF81 : Fresh w8 W1 := hFa.trans hx3 (fun _ _ e => e)
  have hx2' := own_low hx2 hFa.size
  rw [hCl] at hx2'
  obtain ⟨gx, xc, hxv⟩ : ∃ gx xc, xv = .slice (some ⟨gx, 0, none⟩) h xc := by
    rcases hx2'.2 with ⟨_, e⟩ | ⟨g', cap', cur, hv, _⟩
    · omega
    · exact ⟨g', cap', hv⟩
  subst hxv
  have hxW : W1.drew.ownsRow w8.heap.size 33 1 (.slice (some ⟨gx, 0, none⟩) h xc) ((cosL P h 1 1).take h).length (((cosL P h 1 1).take h).map (Value.int .i8)) := by rw [hCl]; exact hx2'
  have hc8 : ∀ z ∈ (cosL P h 1 1).take h, Fit .i8 z := fun z hz => HI.out.1.2 z (List.mem_of_mem_take hz)
  obtain ⟨yv, W2, hy1, hy2, hy3⟩ := twin ty8 22 W1.drew w8.heap.size _ ((cosL P h 1 1).take h) hxW (by have := hF81.size; simpa using this) _ ((cosL P h 1 1).take h) _ (rk_of_own hxW (by rw [hCl]; simp only [kb]; omega) hc8) (by rw [hCl]; simp only [kb]; omega)
  have hF82 : Fresh w8 W2 := hF81.drew.grown hy3 (fun k hk e => by have := (own_block hx2').1; simp [Value.ownBlock] at e; omega)
  rw [hCl] at hy2
  have hyR := rk_of_own hy2 (by simp only [List.length_append, hCl, kb]; omega) (fun z hz => (List.mem_append.1 hz).elim (hc8 z) (hc8 z))
  have HT : Hid (Unit → _) := fun (_ : Unit) => Turn_any _ _ _ _ _ _ _ _ _ (2 * (h : Int)) W2 hyR ((kd.pre h hPh2).fresh hF82) ((kt.pre h hPh2).fresh hF82) ⟨by omega, by omega⟩
  have htE : toE ((cosL P h 1 1).take h ++ (cosL P h 1 1).take h).length (2 * (h : Int)) ((cosL P h 1 1).take h).length ((sinL P h 1 1).take h).length = 0 := by
    have e1 : ((sinL P h 1 1).take h).length = h := by rw [List.length_take, hl2]; omega
    rw [List.length_append, hCl, e1]
    unfold toE
    rw [if_neg, if_neg (by omega)]
    rintro (e | e | e)
    · omega
    · omega
    · exact e (by rw [show ((h + h : Nat) : Int) = 2 * (h : Int) by omega]; exact Int.emod_self)
  rw [htE] at HT
  have hYl : (toL 1 ((cosL P h 1 1).take h ++ (cosL P h 1 1).take h) (2 * (h : Int)) ((cosL P h 1 1).take h) ((sinL P h 1 1).take h)).length = 2 * h := by rw [toL_ok htE, mkL_len, List.length_append, hCl]; omega
  generalize toL 1 ((cosL P h 1 1).take h ++ (cosL P h 1 1).take h) (2 * (h : Int)) ((cosL P h 1 1).take h) ((sinL P h 1 1).take h) = Y at *
  obtain ⟨yo, yc, hyv, _⟩ := hyR.shape
  have hyl2 : ((cosL P h 1 1).take h ++ (cosL P h 1 1).take h).length = 2 * h := by rw [List.length_append, hCl]; omega
  rw [hyl2] at hyv
  subst hyv
  have s1 := fun W => run_pre8 db df n dc h (by omega) W
  have s2 := fun W => run_pre8 tb tf n tc h (by omega) W
  have HF82 : Hid (Fresh w8 W2) := hF82
  have HYl : Hid (Y.length = 2 * h) := hYl
  have hh' : (h : Int) ≤ (cc : Int) := by omega
  clear kc kd kt ks hc1 hd1 ht1 hs1 hFa hCl hCne hx2 hx3 hF81 hx2' hxW hc8 hy2 hy3 hyR htE hyl2 hF82 hYl hR8
  go_wp2_with (at_builtin; refine Lib.wpList_append_run _ rfl _ _ _ _ rfl _ _ rfl rfl _ _ hx1 ?_; clear hx1)
  have r0 : IntKind.i64.wrap (2 * (h : Int)) = 2 * (h : Int) := wrapId (by omega) (by omega)
  have hSa : Fresh w8 W2 := HF82.out
  go_region_held3 (fun _ => True) (trivial)
    (first
      | (refine step_append_run rfl _ _ _ _ rfl _ _ (by rfl) (by rfl) _ _ hy1 ?_)
      | (go_at_call 10; (with_reducible refine (HT.out ()).mono ?_); rintro e W3 ⟨y, rfl, hoy, hF3⟩))
  have hF43 : Fresh w4 W3 := (HF8.out.trans hSa (fun _ _ e => e)).trans hF3 (fun _ _ e => e)
  have hF13 : Fresh w1 W3 := HF4.out.trans hF43 (fun _ _ e => e)
  have hB2 : w1.heap.size ≤ W2.heap.size := (HF4.out.trans (HF8.out.trans hSa (fun _ _ e => e)) (fun _ _ e => e)).size
  have hRy := Rs.made (HR4.out W2 (HF8.out.trans hSa (fun _ _ e => e))) hF3 hB2 (R8.at hoy)
  obtain ⟨gy, yc2, hyv⟩ : ∃ gy yc2, y = .slice (some ⟨gy, 0, none⟩) (2 * h) yc2 := by
    rcases hoy.2 with ⟨_, e⟩ | ⟨g', cap', cur, hv, _⟩
    · rw [HYl.out] at e; omega
    · exact ⟨g', cap', by rw [← HYl.out]; exact hv⟩
  subst hyv
  obtain ⟨us, hus⟩ : ∃ us : List Value, us = [.slice (some ⟨cb, cf, none⟩) n cc, .slice (some ⟨sb, sf, none⟩) n sc, .slice (some ⟨gy, 0, none⟩) (2 * h) yc2] := ⟨_, rfl⟩
  obtain ⟨ex, hex⟩ : ∃ ex : List Rr, ex = [R8 (.slice (some ⟨db, df, none⟩) n dc) (cosL P h 1 1), R8 (.slice (some ⟨tb, tf, none⟩) n tc) (sinL P h 1 1), R8 a (cosL P h 1 1), R8 b (sinL P h 1 1)] := ⟨_, rfl⟩
  obtain ⟨F0, hF0⟩ : ∃ F0 : Nat → List Int, F0 = fun p => if p = 0 then cosL P h 1 1 else if p = 1 then sinL P h 1 1 else Y := ⟨_, rfl⟩
  obtain ⟨lF, hlF⟩ : ∃ lF : Nat → Nat, lF = fun p => if p < 2 then n else 2 * h := ⟨_, rfl⟩
  have hlp : ∀ p, 1 ≤ lF p ∧ lF p ≤ 16384 := fun p => by rw [hlF]; show 1 ≤ (if p < 2 then n else 2 * h) ∧ (if p < 2 then n else 2 * h) ≤ 16384; split <;> omega
  have HLp : Hid (∀ p, 1 ≤ lF p ∧ lF p ≤ 16384) := hlp
  have hlen0 : ∀ p, p < 3 → (F0 p).length = lF p := fun p hp => by
    rw [hF0, hlF]
    match p, hp with
    | 0, _ => exact hl1
    | 1, _ => exact hl2
    | 2, _ => exact HYl.out
  have hN3 : us.length = 3 := by rw [hus]; rfl
  have HN3 : Hid (us.length = 3) := hN3
  have hrow : rowsOf us F0 = [R8 (.slice (some ⟨cb, cf, none⟩) n cc) (cosL P h 1 1), R8 (.slice (some ⟨sb, sf, none⟩) n sc) (sinL P h 1 1), R8 (.slice (some ⟨gy, 0, none⟩) (2 * h) yc2) Y] := by rw [hus, hF0]; rfl
  have hM3 : Rs w1.heap.size W3 (rowsOf us F0 ++ ex) := by
    rw [hrow, hex]
    refine hRy.perm ?_
    exact (List.Perm.swap _ _ _).trans ((List.Perm.swap _ _ _).cons _)
  have hM4 : MemX w1.heap.size (W3.alloc (.cells #[.slice (some ⟨cb, cf, none⟩) n cc, .slice (some ⟨sb, sf, none⟩) n sc, .slice (some ⟨gy, 0, none⟩) (2 * h) yc2] 22)) (.slice (some ⟨W3.heap.size, 0, none⟩) 3 3) us F0 ex := by
    unfold MemX
    rw [show KR (.slice (some ⟨W3.heap.size, 0, none⟩) 3 3) us = KR (.slice (some ⟨W3.heap.size, 0, none⟩) 3 3) [.slice (some ⟨cb, cf, none⟩) n cc, .slice (some ⟨sb, sf, none⟩) n sc, .slice (some ⟨gy, 0, none⟩) (2 * h) yc2] by rw [hus]]
    exact Rs.three hM3 hF13.size _ _ _
  have HTw : Hid (∀ (X : World) (kv : Value) (F : Nat → List Int), MemX w1.heap.size X kv us F ex → Fresh w1 X → MemX w1.heap.size (X.alloc (.cells #[.slice (some ⟨cb, cf, none⟩) n cc, .slice (some ⟨sb, sf, none⟩) n sc, .slice (some ⟨gy, 0, none⟩) (2 * h) yc2] 22)) (.slice (some ⟨X.heap.size, 0, none⟩) 3 3) us F ex) := fun X kv F hX hF => by
    unfold MemX at hX ⊢
    rw [show KR (.slice (some ⟨X.heap.size, 0, none⟩) 3 3) us = KR (.slice (some ⟨X.heap.size, 0, none⟩) 3 3) [.slice (some ⟨cb, cf, none⟩) n cc, .slice (some ⟨sb, sf, none⟩) n sc, .slice (some ⟨gy, 0, none⟩) (2 * h) yc2] by rw [hus]]
    exact Rs.three hX.tail hF.size _ _ _
  have HCk : Hid (∀ (gk : Nat) (X : World) (F : Nat → List Int), MemX w1.heap.size X (.slice (some ⟨gk, 0, none⟩) 3 3) us F ex → (∀ p, p < 3 → (F p).length = lF p) → ∀ p, p < 3 → ∃ g c, X.cell? ⟨gk, p, none⟩ = some (.slice (some ⟨g, 0, none⟩) (lF p) c) ∧ us.getD p nilS = .slice (some ⟨g, 0, none⟩) (lF p) c ∧ w1.heap.size ≤ g ∧ X.ownsRow w1.heap.size 33 1 (.slice (some ⟨g, 0, none⟩) (lF p) c) (lF p) ((F p).map (Value.int .i8))) := fun gk X F hX hF p hp => by
    obtain ⟨g', c', hkk, _, hcell⟩ := hX.kshape (by rw [HN3.out]; omega)
    injection hkk with e1 _ _
    injection e1 with e1
    injection e1 with e1
    subst e1
    have ho := hX.row (p := p) (by rw [HN3.out]; exact hp)
    rw [hF p hp] at ho
    have hc := hcell p (by rw [HN3.out]; exact hp)
    rcases ho.2 with ⟨_, e⟩ | ⟨g, c, cur, hv, hb, _⟩
    · have := (HLp.out p).1; omega
    · rw [hv] at hc ho
      exact ⟨g, c, hc, hv, hb, ho⟩
  have HEx : Hid (∀ (X : World) (kv : Value) (F : Nat → List Int), MemX w1.heap.size X kv us F ex → ∀ u x, (u = .slice (some ⟨db, df, none⟩) n dc ∨ u = a) ∧ x = cosL P h 1 1 ∨ (u = .slice (some ⟨tb, tf, none⟩) n tc ∨ u = b) ∧ x = sinL P h 1 1 → Rk .i8 (fun b => w1.heap.size ≤ b ∧ b < X.heap.size) X u x) := fun X kv F hX u x hu => by
    have hm : R8 u x ∈ ex := by
      rw [hex]
      rcases hu with ⟨e | e, e'⟩ | ⟨e | e, e'⟩ <;> subst e <;> subst e' <;> simp
    have hm2 : R8 u x ∈ KR kv us :: (rowsOf us F ++ ex) := List.mem_cons.2 (.inr (List.mem_append.2 (.inr hm)))
    rcases hu with ⟨_, e'⟩ | ⟨_, e'⟩
    · exact Rs.rk hX hm2 (by rw [e']; exact HI.out.1.1) (by rw [e']; exact HI.out.1.2)
    · exact Rs.rk hX hm2 (by rw [e']; exact HI.out.2.1) (by rw [e']; exact HI.out.2.2)
  have HM : Hid (MemX w1.heap.size (W3.alloc (.cells #[.slice (some ⟨cb, cf, none⟩) n cc, .slice (some ⟨sb, sf, none⟩) n sc, .slice (some ⟨gy, 0, none⟩) (2 * h) yc2] 22)) (.slice (some ⟨W3.heap.size, 0, none⟩) 3 3) us F0 ex ∧ Fresh w1 (W3.alloc (.cells #[.slice (some ⟨cb, cf, none⟩) n cc, .slice (some ⟨sb, sf, none⟩) n sc, .slice (some ⟨gy, 0, none⟩) (2 * h) yc2] 22)) ∧ (∀ p, p < 3 → (F0 p).length = lF p) ∧ ∀ p, p < 0 → (F0 p).getD 0 0 = 99) := ⟨hM4, hF13.alloc _, hlen0, fun p hp => by omega⟩
  clear hF43 hF13 hB2 hRy hoy hF3 hSa HR4 HF82 HF8 HT hM3 hM4 hrow hlen0 hlp hus hex hF0 hlF hl1 hl2 hy1 s1 s2
  obtain ⟨W4, hW4⟩ : ∃ W4, W3.alloc (.cells #[.slice (some ⟨cb, cf, none⟩) n cc, .slice (some ⟨sb, sf, none⟩) n sc, .slice (some ⟨gy, 0, none⟩) (2 * h) yc2] 22) = W4 := ⟨_, rfl⟩
  rw [hW4] at HM
  obtain ⟨gk, hgk⟩ : ∃ gk, W3.heap.size = gk := ⟨_, rfl⟩
  rw [hgk] at HM
  have hne : (2 * (h : Int) == 0) = false := by simp; omega
  go_wp2
  clear hW4 hgk
  go_loopw [109] (fun iv wx => ∃ (i : Nat) (F : Nat → List Int), i ≤ 3 ∧ iv = zV i ∧ Hid (MemX w1.heap.size wx (.slice (some ⟨gk, 0, none⟩) 3 3) us F ex ∧ Fresh w1 wx ∧ (∀ p, p < 3 → (F p).length = lF p) ∧ ∀ p, p < i → (F p).getD 0 0 = 99)) (fun iv _ => 3 - (RowKit.intOf iv).toNat)
  case atStart => exact ⟨0, F0, Nat.zero_le _, rfl, HM.out⟩
  case round =>
    obtain ⟨i, F, hi, rfl, HA⟩ := hrel
    clear HM
    by_cases hlt : i < 3
    · have hlt' : (i : Int) < 3 := by omega
      obtain ⟨g, gc, x1, x2, hg, ho⟩ := HCk.out gk wr F HA.out.1 HA.out.2.2.1 i hlt
      obtain ⟨L, hL⟩ : ∃ L, lF i = L := ⟨_, rfl⟩
      have hL2 := HLp.out i
      have HL : Hid (lF i = L) := hL
      have HG : Hid (us.getD i nilS = .slice (some ⟨g, 0, none⟩) L gc ∧ w1.heap.size ≤ g) := ⟨by rw [x2, hL], hg⟩
      rw [hL] at x1 hL2
      have HB : Hid (MemX w1.heap.size wr (.slice (some ⟨gk, 0, none⟩) 3 3) us F ex ∧ Fresh w1 wr ∧ (∀ p, p < 3 → (F p).length = lF p) ∧ (∀ p, p < i → (F p).getD 0 0 = 99) ∧ (0 < 0 → (F i).getD 0 0 = 99)) := ⟨HA.out.1, HA.out.2.1, HA.out.2.2.1, HA.out.2.2.2, fun h => by omega⟩
      clear HA ho x2 hg hL
      go_wp2
      go_loopw [115] (fun jv wx => ∃ (j : Nat) (F : Nat → List Int), j ≤ L ∧ jv = zV j ∧ Hid (MemX w1.heap.size wx (.slice (some ⟨gk, 0, none⟩) 3 3) us F ex ∧ Fresh w1 wx ∧ (∀ p, p < 3 → (F p).length = lF p) ∧ (∀ p, p < i → (F p).getD 0 0 = 99) ∧ (0 < j → (F i).getD 0 0 = 99))) (fun jv _ => L - (RowKit.intOf jv).toNat)
      case atStart => exact ⟨0, F, Nat.zero_le _, rfl, HB.out⟩
      case round =>
        obtain ⟨j, F', hj, rfl, HA⟩ := hrel
        clear HB x1
        by_cases hjr : j < L
        · obtain ⟨g', gc', x1, x2, hg, ho⟩ := HCk.out gk wr F' HA.out.1 HA.out.2.2.1 i hlt
          rw [HL.out] at x1 x2 ho
          have hge := HG.out.1.symm.trans x2
          injection hge with e1 _ e3
          injection e1 with e1
          injection e1 with e1
          subst e1
          subst e3
          have hjr' : (j : Int) < (L : Int) := by omega
          have f1 := own_frozen ho j
          have g1 := own_get ho j hjr
          have HX : Hid (MemX w1.heap.size (wr.setCell ⟨g, j, none⟩ (.int .i8 99)) (.slice (some ⟨gk, 0, none⟩) 3 3) us (fun q => if q = i then (F' i).set j 99 else F' q) ex ∧ Fresh w1 (wr.setCell ⟨g, j, none⟩ (.int .i8 99)) ∧ (∀ p, p < 3 → ((fun q => if q = i then (F' i).set j 99 else F' q) p).length = lF p) ∧ (∀ p, p < i → ((fun q => if q = i then (F' i).set j 99 else F' q) p).getD 0 0 = 99) ∧ (0 < j + 1 → ((fun q => if q = i then (F' i).set j 99 else F' q) i).getD 0 0 = 99)) := by
            refine ⟨HA.out.1.storeX (by rw [HN3.out]; exact hlt) x2 j 99, HA.out.2.1.setCell (fun e => by have : g < w1.heap.size := e; omega) _, fun p hp => ?_, fun p hp => ?_, fun _ => ?_⟩
            · show (if p = i then (F' i).set j 99 else F' p).length = lF p
              split
              · rename_i e; subst e; rw [List.length_set]; exact HA.out.2.2.1 p hp
              · exact HA.out.2.2.1 p hp
            · show (if p = i then (F' i).set j 99 else F' p).getD 0 0 = 99
              rw [if_neg (by omega)]
              exact HA.out.2.2.2.1 p hp
            · show (if i = i then (F' i).set j 99 else F' i).getD 0 0 = 99
              rw [if_pos rfl, getD_set_at (by rw [HA.out.2.2.1 i hlt, HL.out]; exact hjr)]
              split
              · rfl
              · exact HA.out.2.2.2.2 (by omega)
          clear HA ho x1 x2 hg
          generalize (F' i).getD j 0 = old at *
          go_wp2
          go_roundw
          case rel => exact ⟨j + 1, _, hjr, by go_num, HX.out⟩
          case measure => simp [RowKit.intOf]; omega
        · obtain rfl : j = L := by omega
          have HE : Hid (MemX w1.heap.size wr (.slice (some ⟨gk, 0, none⟩) 3 3) us F' ex ∧ Fresh w1 wr ∧ (∀ p, p < 3 → (F' p).length = lF p) ∧ ∀ p, p < i + 1 → (F' p).getD 0 0 = 99) := ⟨HA.out.1, HA.out.2.1, HA.out.2.2.1, fun p hp => by
            rcases Nat.lt_or_ge p i with e | e
            · exact HA.out.2.2.2.1 p e
            · obtain rfl : p = i := by omega
              exact HA.out.2.2.2.2 (by omega)⟩
          clear HA
          go_wp2
          go_roundw
          case rel => exact ⟨i + 1, F', hlt, by go_num, HE.out⟩
          case measure => simp [RowKit.intOf]; omega
    · obtain rfl : i = 3 := by omega
      rename World => W5
      have HM : Hid (MemX w1.heap.size (W5.alloc (.cells #[.slice (some ⟨cb, cf, none⟩) n cc, .slice (some ⟨sb, sf, none⟩) n sc, .slice (some ⟨gy, 0, none⟩) (2 * h) yc2] 22)) (.slice (some ⟨W5.heap.size, 0, none⟩) 3 3) us F ex ∧ Fresh w1 (W5.alloc (.cells #[.slice (some ⟨cb, cf, none⟩) n cc, .slice (some ⟨sb, sf, none⟩) n sc, .slice (some ⟨gy, 0, none⟩) (2 * h) yc2] 22))) := ⟨HTw.out W5 _ F HA.out.1 HA.out.2.1, HA.out.2.1.alloc _⟩
      have HFd : Hid ((∀ p, p < 3 → (F p).length = lF p) ∧ ∀ p, p < 3 → (F p).getD 0 0 = 99) := ⟨HA.out.2.2.1, HA.out.2.2.2⟩
      clear HA HTw
      obtain ⟨W6, hW6⟩ : ∃ W6, W5.alloc (.cells #[.slice (some ⟨cb, cf, none⟩) n cc, .slice (some ⟨sb, sf, none⟩) n sc, .slice (some ⟨gy, 0, none⟩) (2 * h) yc2] 22) = W6 := ⟨_, rfl⟩
      rw [hW6] at HM
      obtain ⟨gl, hgl⟩ : ∃ gl, W5.heap.size = gl := ⟨_, rfl⟩
      rw [hgl] at HM
      rw [show ((3 : Nat) : Int) = 3 from rfl]
      go_wp2
      clear hW6 hgl
      go_loopw [128] (fun iv wx => ∃ i : Nat, i ≤ 3 ∧ iv = zV i ∧ Hid (MemX w1.heap.size wx (.slice (some ⟨gl, 0, none⟩) 3 3) us F ex ∧ Fresh w1 wx)) (fun iv _ => 3 - (RowKit.intOf iv).toNat)
      case atStart => exact ⟨0, Nat.zero_le _, rfl, HM.out⟩
      case round =>
        obtain ⟨i, hi, rfl, HA⟩ := hrel
        clear HM
        by_cases hlt : i < 3
        · have hlt' : (i : Int) < 3 := by omega
          obtain ⟨g, gc, x1, x2, hg, ho⟩ := HCk.out gl wr F HA.out.1 HFd.out.1 i hlt
          have hG0 := GroX.start HA.out.1 (p := i) (by rw [HN3.out]; exact hlt)
          rw [x2, HFd.out.1 i hlt] at hG0
          obtain ⟨L, hL⟩ : ∃ L, lF i = L := ⟨_, rfl⟩
          have hL2 := HLp.out i
          have HLl : Hid ((F i).length = L) := by show (F i).length = L; rw [HFd.out.1 i hlt, hL]
          rw [hL] at hL2 x1 hG0
          have HB : Hid (GroX w1.heap.size wr (.slice (some ⟨gl, 0, none⟩) 3 3) us F ex i (.slice (some ⟨g, 0, none⟩) L gc) (L + 0) ∧ Fresh w1 wr) := ⟨hG0, HA.out.2⟩
          clear HA x2 hG0 ho hg hL
          go_wp2
          go_loopw [21, 132] (fun gv qv wx => ∃ (q : Nat) (gv' : Value), q ≤ 9 ∧ qv = zV q ∧ gv = gv' ∧ Hid (GroX w1.heap.size wx (.slice (some ⟨gl, 0, none⟩) 3 3) us F ex i gv' (L + q) ∧ Fresh w1 wx)) (fun _ qv _ => 9 - (RowKit.intOf qv).toNat)
          case atStart => exact ⟨0, _, Nat.zero_le _, rfl, rfl, HB.out⟩
          case round =>
            obtain ⟨q, gv', hq, rfl, rfl, HA⟩ := hrel
            clear HB x1
            obtain ⟨oo, oc, hov⟩ := HA.out.1.shape
            subst hov
            by_cases hq9 : q < 9
            · obtain ⟨gv2, X2, hra, hG2, hF2⟩ := HA.out.1.push HA.out.2.size 77 (by omega)
              obtain ⟨o2, oc2, hov⟩ := hG2.shape
              subst hov
              have hq9' : (q : Int) < 9 := by omega
              have HX : Hid (GroX w1.heap.size X2 (.slice (some ⟨gl, 0, none⟩) 3 3) us F ex i (.slice o2 (L + q + 1) oc2) (L + (q + 1)) ∧ Fresh w1 X2) := ⟨hG2, hF2 w1 rfl HA.out.2⟩
              clear HA hG2 hF2
              go_wp2_with (at_builtin; refine Lib.wpList_append_run _ rfl _ _ _ _ rfl _ _ rfl rfl _ _ hra ?_)
              go_roundw
              case rel => exact ⟨q + 1, _, hq9, by go_num, rfl, HX.out⟩
              case measure => simp [RowKit.intOf]; omega
            · obtain rfl : q = 9 := by omega
              obtain ⟨g2, c2, hgv, hcell, hm0⟩ := HA.out.1.begins (by rw [HLl.out]; omega)
              rw [HFd.out.2 i hlt] at hcell
              have HE : Hid (MemX w1.heap.size wr (.slice (some ⟨gl, 0, none⟩) 3 3) us F ex ∧ Fresh w1 wr) := ⟨HA.out.1.done (by rw [HN3.out]; exact hlt), HA.out.2⟩
              injection hgv with e1 _ e3
              subst e1
              subst e3
              clear HA hq hq9
              rw [show ((9 : Nat) : Int) = 9 from rfl]
              go_wp2
              go_roundw
              case rel => exact ⟨i + 1, hlt, by go_num, HE.out⟩
              case measure => simp [RowKit.intOf]; omega
        · obtain rfl : i = 3 := by omega
          rename World => WF
          have HM : Hid (∀ W, Fresh WF W → MemX w1.heap.size W (.slice (some ⟨gl, 0, none⟩) 3 3) us F ex ∧ Fresh w1 W) := fun W hW => ⟨HA.out.1.fresh hW, HA.out.2.trans hW (fun _ _ e => e)⟩
          have H7 : Hid (Unit → _) := fun (_ : Unit) => Table_any P h WF (HS1.out WF HA.out.2)
          clear HA HCk HFd hlt hi
          go_wp2_with fail
          refine (H7.out ()).mono ?_
          rintro e w9 hG
          obtain ⟨u9, v9, rfl, hu9, hv9, hF9⟩ := hG.tab
          have HF9 : Hid (Fresh WF w9) := hF9
          have HR9 : Hid (∀ W, Fresh w9 W → Rk .i8 (fun b => WF.heap.size ≤ b ∧ b < w9.heap.size) W u9 (cosL P h 1 1) ∧ Rk .i8 (fun b => WF.heap.size ≤ b ∧ b < w9.heap.size) W v9 (sinL P h 1 1)) := fun W hW => ⟨hu9.fresh hW, hv9.fresh hW⟩
          have HEy : Hid (∀ W, Fresh w9 W → ∀ u x, _) := fun W hW => HEx.out W _ F (HM.out W (hF9.trans hW (fun _ _ e => e))).1
          have Ha : Hid (∀ W, Fresh w9 W → _) := fun W hW => same_any _ _ _ _ _ W (HEy.out W hW (.slice (some ⟨db, df, none⟩) n dc) (cosL P h 1 1) (.inl ⟨.inl rfl, rfl⟩)) (HEy.out W hW a (cosL P h 1 1) (.inl ⟨.inr rfl, rfl⟩))
          have Hb : Hid (∀ W, Fresh w9 W → _) := fun W hW => same_any _ _ _ _ _ W (HEy.out W hW (.slice (some ⟨tb, tf, none⟩) n tc) (sinL P h 1 1) (.inr ⟨.inl rfl, rfl⟩)) (HEy.out W hW b (sinL P h 1 1) (.inr ⟨.inr rfl, rfl⟩))
          have Hc : Hid (∀ W, Fresh w9 W → _) := fun W hW => same_any _ _ _ _ _ W (HR9.out W hW).1 (HEy.out W hW a (cosL P h 1 1) (.inl ⟨.inr rfl, rfl⟩))
          have Hd : Hid (∀ W, Fresh w9 W → _) := fun W hW => same_any _ _ _ _ _ W (HR9.out W hW).2 (HEy.out W hW b (sinL P h 1 1) (.inr ⟨.inr rfl, rfl⟩))
          have HFw9 : Hid (Fresh w w9) := HF1.out.trans (HM.out w9 hF9).2 (fun _ _ e => e)
          clear H7 hG hu9 hv9 hF9 HR9 HEy HEx HM
          go_wp2_with fail
          refine (Ha.out _ (Kept.refl _ _)).mono ?_
          rintro e wa ⟨rfl, na, hwa⟩
          have HFa : Hid (Fresh w9 wa) := by show Fresh _ _; rw [hwa]; exact kept_drewN _ _ _
          clear hwa Ha
          go_wp2_with fail
          refine (Hb.out _ HFa.out).mono ?_
          rintro e wb ⟨rfl, nb, hwb⟩
          have HFb : Hid (Fresh w9 wb) := by show Fresh _ _; rw [hwb]; exact HFa.out.drewN nb
          clear hwb Hb
          go_wp2_with fail
          refine (Hc.out _ HFb.out).mono ?_
          rintro e wc ⟨rfl, nc, hwc⟩
          have HFc : Hid (Fresh w9 wc) := by show Fresh _ _; rw [hwc]; exact HFb.out.drewN nc
          clear hwc Hc
          go_wp2_with fail
          refine (Hd.out _ HFc.out).mono ?_
          rintro e wd ⟨rfl, nd, hwd⟩
          have HFd : Hid (Fresh w wd) := by show Fresh _ _; rw [hwd]; exact HFw9.out.trans (HFc.out.drewN nd) (fun _ _ e => e)
          clear hwd Hd
          go_wp2
          go_ret
          exact ⟨rfl, HFd.out⟩

set_option maxRecDepth 100000 in
theorem contract (H : Type) (enc : TypeId × Value → H) (W : World) (base : Nat) (args : Array Value) (ds gs : List (DataW H)) (before : List MemPlace)
    (hval : ∀ (j : Nat) t v, Tryd.f7.params[j]? = some t → args[j]? = some v → Value.okWide Tryd.prog W .any base t v)
    (hW : DataW.Whole enc Tryd.prog Tryd.f7.params.toList Rows.ropeMemorySpec.vars false W args.toList ds gs before) 
    (hsz : (DataW.weightsEach Tryd.prog (Tryd.f7.params.toList ++ []) (ds ++ gs)).all (· ≤ reachBytes) = true) (hL : laidMetH Tryd.prog Rows.ropeMemoryRow.laid W) :
    Calls Tryd.prog 7 args W fun e W' => ∃ v, e = .returned v ∧ Rows.ropeMemorySpec.post enc Tryd.prog Tryd.f7 false true false false W args v W' := by
  have hW' := hW
  obtain ⟨p, q, hA0, hV, rfl, hfz, hnd⟩ := hW
  have hA : DataW.TrodAll enc Tryd.prog W 0 (fun _ => true) true Tryd.f7.params.toList args.toList ds p := hA0
  rw [Tryd.params7] at hA hval hsz
  obtain ⟨rfl, rfl⟩ := trodVars_none hV
  obtain ⟨v0, v1, d0, d1, p0, p1, rfl, rfl, rfl, h0, h1⟩ := trodAll_two hA
  obtain ⟨x0, rfl, rfl, rfl, w0⟩ := open_int Tryd.underlying3 (hval 0 3 v0 rfl rfl) h0
  obtain ⟨x1, rfl, rfl, rfl, w1⟩ := open_int Tryd.underlying3 (hval 1 3 v1 rfl rfl) h1
  refine (walk x0 x1 W (sin_of_laid hL)).mono fun e W' ⟨he, hk⟩ => ?_
  subst he
  exact ⟨_, rfl, post_law rfl (by kernel_rfl) (by kernel_rfl) hW' rfl hk⟩

set_option maxRecDepth 100000 in
theorem laid_met (os : Os) : laidMet Tryd.prog Rows.ropeMemoryRow.laid ((layIn (World.holding Tryd.prog os ⟨#[], #[], []⟩)).forCall (fun _ _ => 0) ⟨#[], #[.int .i64 0, .int .i64 0], []⟩).memory :=
  laidMet_of_run' 8 (by kernel_rfl) (by kernel_rfl)
set_option maxRecDepth 100000 in
theorem reads (os : Os) {H : Type} (enc : TypeId × Value → H) : ∃ places, DataW.whole enc Tryd.prog ((layIn (World.holding Tryd.prog os ⟨#[], #[], []⟩)).forCall (fun _ _ => 0) ⟨#[], #[.int .i64 0, .int .i64 0], []⟩).memory Tryd.f7.params.toList Rows.ropeMemorySpec.vars false (#[.int .i64 0, .int .i64 0] : Array Value).toList 8 = some ([.lit (.int .i64 0), .lit (.int .i64 0)], [], places) :=
  ⟨[], by kernel_rfl⟩

set_option maxRecDepth 100000 in
theorem lifted (os : Os) (started : os.Started) (H : Type) (enc : TypeId × Value → H) (F : Stop.Interp) :
    ReturnsInHanded {} Tryd.checked os 7 .any ((OpenSpec.ofChange Rows.ropeMemorySpec).preRow enc Tryd.prog Tryd.f7 Rows.ropeMemoryRow.domain false Rows.ropeMemoryRow.laid) (((OpenSpec.ofChange Rows.ropeMemorySpec).at F).post enc Tryd.prog Tryd.f7 false true false false) := by
  obtain ⟨places, hx⟩ := reads os enc
  refine returnsInHanded_of_row (C := Tryd.checked) (s := OpenSpec.ofChange Rows.ropeMemorySpec) Tryd.own started (by kernel_rfl) Tryd.func7
    (witness_row_at (enc := enc) (C := Tryd.checked) false (layIn (World.holding Tryd.prog os ⟨#[], #[], []⟩)) #[.int .i64 0, .int .i64 0] rfl (by kernel_rfl) (by kernel_rfl) (by kernel_rfl)
      (OpenSpec.preRow_of_cond 8 hx (by kernel_rfl) (fun k hk => by cases hk) (by kernel_rfl) (laid_met os))) ?_
  intro W base args ds gs before hval hW _ hc hsz hL _ _
  exact contract H enc W base args ds gs before hval hW hsz hL

theorem said : Rows.RopeMemorySaid :=
  OpenClaim.holds_of_cond 7 Tryd.f7 rfl rfl rfl rfl rfl rfl rfl ⟨rfl, rfl, rfl, rfl, rfl⟩ rfl rfl rfl rfl rfl (by kernel_rfl) Tryd.func7 (by kernel_rfl)
    (of_decide_eq_true (by kernel_rfl)) (by unfold Func.isWrapper; first | (rw [if_pos (by decide +kernel)]; kernel_rfl) | (rw [if_neg (by decide +kernel)]; exact ⟨rfl, rfl⟩))
    (fun os started H enc _ F => by rw [OpenClaim.pre_eq_preRow]; exact lifted os started H enc F)

theorem plain (f : FuncId) (fn : Func) (hf : Tryd.pinned.checked.prog.funcNamed Rows.ropeMemoryRow.func = some f) (hfn : Tryd.pinned.checked.prog.funcs[f]? = some fn) :
    false = Tryd.pinned.checked.prog.looks [] ∧ ∀ (j : Nat) t, fn.params[j]? = some t → Tryd.pinned.checked.prog.wantsStandIn t = false := by
  obtain rfl : f = 7 := Option.some.inj ((show Tryd.prog.funcNamed Rows.ropeMemoryRow.func = some 7 by kernel_rfl).symm.trans hf) |>.symm
  obtain rfl : fn = Tryd.f7 := (Option.some.inj (Tryd.func7.symm.trans hfn)).symm
  refine ⟨by kernel_rfl, fun j t ht => ?_⟩
  have hall : (Tryd.f7.params.toList.all fun u => !Tryd.prog.wantsStandIn u) = true := by kernel_rfl
  exact (show Tryd.prog.wantsStandIn t = false by simpa using List.all_eq_true.1 hall t (Array.mem_toList_iff.2 (Array.mem_of_getElem? ht)))

theorem card : Rows.RopeMemoryCardSaid :=
  Claim7.holds_tied_plain_at .later [] _ _ _ _ said (fun _ h => by cases h) (by kernel_rfl) (fun _ h => by cases h) ropeMemory_row_tie rfl ⟨rfl, rfl⟩ (by kernel_rfl) rfl plain (by kernel_rfl)

end Go.Proofs.YtkemaofclahaiaaDoor.RMemory
namespace Go.Proofs.YtkemaofclahaiaaDoor
theorem ropeMemory_card : Rows.RopeMemoryCardSaid := RMemory.card
end Go.Proofs.YtkemaofclahaiaaDoor
