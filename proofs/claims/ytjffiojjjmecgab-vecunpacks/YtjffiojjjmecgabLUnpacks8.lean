/-
  For every packed numbers the statement VecUnpacks answers true: Unpack and TimesPacked are the document's; what is handed in stays.
-/
import Derived.Test.YtjffiojjjmecgabVdg
import Derived.Test.YtjffiojjjmecgabVch
import Derived.Test.YtjffiojjjmecgabVci
namespace Go.Proofs.Ytjffiojjjmecgab.Unpacks8
open Go.ChangeShapes Go.WideShapes Go.ChangeAt Go.RowKit Go.Lib Go.Maps Go.Joins

def Plain : Prop := ∀ (n g : Int) (sv hv : Value) (ss hs : List Int) (w : World) (_ : Rk .u8 (fun b => b < w.heap.size) w sv ss) (_ : Rk .u8 (fun b => b < w.heap.size) w hv hs),
    Calls Try.prog 20 #[.agg #[zV n, zV g, sv, hv]] w fun e w' => ∃ tv uv, e = .returned (.agg #[zV n, zV g, tv, uv]) ∧ Rk .u8 (fun _ => True) w' tv ss ∧ Rk .u8 (fun _ => True) w' uv hs ∧ Fresh w w'

theorem Try.bu8 : Try.prog.bytesOf 5 = 1 := by kernel_rfl
/-- Packed numbers by value: their four parts. -/
theorem packed_of {H : Type} {enc : TypeId × Value → H} {W : World} {r : Reach} {b0 : Nat} {v : Value} {d : DataW H} {p : List MemPlace} {ts : List TypeId} {ds : List (DataW H)} {j : Nat} (hv : Value.okWide Try.prog W r b0 48 v) (h : DataW.Trod enc Try.prog W 0 (fun _ => true) true 48 v d p)
    (hsz : (DataW.weightsEach Try.prog ts ds).all (· ≤ reachBytes) = true) (ht : ts[j]? = some 48) (hd : ds[j]? = some d) :
    ∃ (sv hv : Value) (n g : Int) (ss hs : List Int), v = .agg #[zV n, zV g, sv, hv] ∧ I64 n ∧ I64 g ∧ Rk .u8 (fun b => b < W.heap.size) W sv ss ∧ Rk .u8 (fun b => b < W.heap.size) W hv hs := by
  obtain ⟨v0, v1, v2, v3, y0, y1, y2, y3, n, rfl, rfl, rfl, q0, q1, q2, q3⟩ := open_agg4 Try.underlying48 (by kernel_rfl) (by kernel_rfl) hv h
  have hf := sized_field hsz ht hd Try.underlying48
  obtain ⟨n, e0, _, w0⟩ := DataW.trod_int Try.underlying3 q0
  obtain ⟨g, e1, _, w1⟩ := DataW.trod_int Try.underlying3 q1
  obtain ⟨ss, hs, _⟩ := row_of tyu8 q2 (fun es sp e => by
    have := sized_slice hf (j := 2) (t := 46) (e := 5) rfl (by rw [e]; rfl) Try.underlying46
    rw [Try.bu8] at this
    simp only [reachBytes] at this
    simp [kb]
    omega)
  obtain ⟨hs', hh, _⟩ := row_of tyu8 q3 (fun es sp e => by
    have := sized_slice hf (j := 3) (t := 46) (e := 5) rfl (by rw [e]; rfl) Try.underlying46
    rw [Try.bu8] at this
    simp only [reachBytes] at this
    simp [kb]
    omega)
  simp only [List.cons.injEq, and_true] at e0 e1
  exact ⟨v2, v3, n, g, ss, hs', by rw [e0, e1], i64_of w0, i64_of w1, hs, hh⟩

set_option maxHeartbeats 8000000 in
set_option maxRecDepth 100000 in
theorem walk0 (hPl : Plain) (n g c : Int) (sv hv xv : Value) (ss hs x : List Int) (w : World) (hS : Rk .u8 (fun b => b < w.heap.size) w sv ss) (hH : Rk .u8 (fun b => b < w.heap.size) w hv hs) (hx : Rk .i8 (fun b => b < w.heap.size) w xv x) (hn : I64 n) (hg : I64 g) (hc : I64 c) (h0 : uE n g ss hs = 0) :
    Calls Try.prog 5 #[.agg #[zV n, zV g, sv, hv], zV c, xv] w fun e w' => e = .returned (.bool true) ∧ Fresh w w' := by
  have HAW : Hid (∀ W : World, _) := fun (W : World) => awake_any W
  obtain ⟨W0, hW0⟩ : ∃ W0, W0 = w.alloc (.cells #[zV n, zV g, sv, hv] 48) := ⟨_, rfl⟩
  have HF0 : Hid (Fresh w W0) := by show Fresh _ _; rw [hW0]; exact (Kept.refl _ w).alloc _
  have p1 : W0.heap[w.heap.size]? = some (.cells #[zV n, zV g, sv, hv] 48 (0, 0)) := by rw [hW0]; exact heap_alloc_new w _
  have HP : Hid (∀ W, Fresh W0 W → (W.cell? ⟨w.heap.size, 0, none⟩ = some (zV n) ∧ W.cell? ⟨w.heap.size, 1, none⟩ = some (zV g) ∧ W.cell? ⟨w.heap.size, 2, none⟩ = some sv ∧ W.cell? ⟨w.heap.size, 3, none⟩ = some hv) ∧ Rk .u8 (fun b => b < w.heap.size) W sv ss ∧ Rk .u8 (fun b => b < w.heap.size) W hv hs ∧ Rk .i8 (fun b => b < w.heap.size) W xv x) := fun W hF => by
    have q1 := hF.at p1 (fun e => e)
    have hFw := HF0.out.trans hF (fun _ _ e => e)
    exact ⟨⟨by rw [Lib.cell_of_heap q1]; rfl, by rw [Lib.cell_of_heap q1]; rfl, by rw [Lib.cell_of_heap q1]; rfl, by rw [Lib.cell_of_heap q1]; rfl⟩, hS.fresh hFw, hH.fresh hFw, hx.fresh hFw⟩
  have HI : Hid ((uL n g ss hs).length * kb .i8 ≤ 140737488351232 ∧ ∀ z ∈ uL n g ss hs, Fit .i8 z) := uL_i8 n g ss hs
  have HJ : Hid (((tL (uL n g ss hs) c x) : List Int).length * kb .i64 ≤ 140737488351232 ∧ ∀ z ∈ ((tL (uL n g ss hs) c x) : List Int), Fit .i64 z) := ⟨by have := tL_len (uL n g ss hs) x c; simp [kb]; omega, tL_i64 c HI.out.2 hx.all⟩
  have HUa : Hid (∀ W, Fresh W0 W → Calls Try.prog 21 #[.agg #[zV n, zV g, sv, hv]] W fun e w' => Gives .i8 38 (uL n g ss hs) 0 W e w') := fun W hF => by have := Unpack_any _ n g sv hv ss hs W (HP.out W hF).2.1 (HP.out W hF).2.2.1 hn hg; rwa [h0] at this
  have HUb : Hid (∀ W tv uv, Rk .u8 (fun _ => True) W tv ss → Rk .u8 (fun _ => True) W uv hs → Calls Try.prog 22 #[.agg #[zV n, zV g, tv, uv]] W fun e w' => Gives .i8 38 (uL n g ss hs) 0 W e w') := fun W tv uv h1 h2 => by have := refUnpack_any _ n g tv uv ss hs W h1 h2 hn hg; rwa [h0] at this
  have HTp : Hid (∀ W, Fresh W0 W → Calls Try.prog 23 #[.agg #[zV n, zV g, sv, hv], zV c, xv] W fun e w' => Gives .i64 2 (tL (uL n g ss hs) c x) (tE (uL n g ss hs) c x) W e w') := fun W hF => by
    have := TimesPacked_any _ n g sv hv xv ss hs x c W (HP.out W hF).2.1 (HP.out W hF).2.2.1 (HP.out W hF).2.2.2 hn hg hc
    have e1 : tpL n g ss hs c x = (tL (uL n g ss hs) c x) := if_pos h0
    have e2 : tpE n g ss hs c x = (tE (uL n g ss hs) c x) := if_pos h0
    rwa [e1, e2] at this
  have HC : Hid (I64 c) := hc
  have HPl : Hid Plain := hPl
  obtain ⟨sa, scp, hsv, _⟩ := hS.shape
  obtain ⟨ba, bcp, hhv, _⟩ := hH.shape
  obtain ⟨xa, xcp, hxv, _⟩ := hx.shape
  subst hsv
  subst hhv
  subst hxv
  clear hS hH hx p1 hn hg hc hPl h0
  
  go_enter Try.func5, Try.ntmps5
  go_wp2_with fail
  rw [← hW0]
  refine (HAW.out _).mono ?_
  rintro e w1 ⟨rfl, hF1⟩
  have HF1 : Hid (Fresh W0 w1) := hF1
  obtain ⟨⟨c1, c2, c3, c4⟩, hR1, hR2, hR3⟩ := HP.out w1 hF1
  have H1 : Hid (Unit → _) := fun (_ : Unit) => HPl.out n g _ _ _ _ w1 hR1.low hR2.low
  clear hW0 HAW hF1 hR1 hR2 hR3
  go_wp2_with fail
  refine (H1.out ()).mono ?_
  rintro e w2 ⟨tv, uv, rfl, hT, hU, hF2⟩
  have HF2 : Hid (Fresh W0 w2) := HF1.out.trans hF2 (fun _ _ e => e)
  clear c1 c2 c3 c4 H1 hF2 HF1 HPl
  obtain ⟨ta, tcp, hsv, _⟩ := hT.shape
  obtain ⟨ua, ucp, hhv, _⟩ := hU.shape
  subst hsv
  subst hhv
  obtain ⟨W3, hW3⟩ : ∃ W3, W3 = w2.alloc (.cells #[Value.int .i64 n, Value.int .i64 g, .slice ta ss.length tcp, .slice ua hs.length ucp] 51) := ⟨_, rfl⟩
  have hF23 : Fresh w2 W3 := by rw [hW3]; exact (Kept.refl _ w2).alloc _
  have HF3 : Hid (Fresh W0 W3) := HF2.out.trans hF23 (fun _ _ e => e)
  have p3 : W3.heap[w2.heap.size]? = some (.cells #[Value.int .i64 n, Value.int .i64 g, .slice ta ss.length tcp, .slice ua hs.length ucp] 51 (0, 0)) := by rw [hW3]; exact heap_alloc_new w2 _
  have HQ : Hid (∀ W, Fresh W3 W → (W.cell? ⟨w2.heap.size, 0, none⟩ = some (zV n) ∧ W.cell? ⟨w2.heap.size, 1, none⟩ = some (zV g) ∧ W.cell? ⟨w2.heap.size, 2, none⟩ = some (.slice ta ss.length tcp) ∧ W.cell? ⟨w2.heap.size, 3, none⟩ = some (.slice ua hs.length ucp)) ∧ Rk .u8 (fun _ => True) W (.slice ta ss.length tcp) ss ∧ Rk .u8 (fun _ => True) W (.slice ua hs.length ucp) hs ∧ Fresh W0 W) := fun W hF => by
    have q1 := hF.at p3 (fun e => e)
    have hFw := hF23.trans hF (fun _ _ e => e)
    exact ⟨⟨by rw [Lib.cell_of_heap q1]; rfl, by rw [Lib.cell_of_heap q1]; rfl, by rw [Lib.cell_of_heap q1]; rfl, by rw [Lib.cell_of_heap q1]; rfl⟩, hT.fresh hFw, hU.fresh hFw, HF3.out.trans hF (fun _ _ e => e)⟩
  obtain ⟨⟨c1, c2, c3, c4⟩, _⟩ := HP.out W3 HF3.out
  have H3 : Hid (Unit → _) := fun (_ : Unit) => HUa.out W3 HF3.out
  rw [hW3] at c1 c2 c3 c4
  clear hT hU hF23 p3 HUa HF2 HF3
  go_wp2_with fail
  rw [← hW3]
  clear c1 c2 c3 c4 hW3
  refine (H3.out ()).mono ?_
  rintro e w4 hG
  obtain ⟨v4, rfl, hR4, hF4⟩ := hG.row HI.out.1 HI.out.2
  have HF4 : Hid (Fresh W3 w4) := hF4
  have HR4 : Hid (Rk .i8 (fun _ => True) w4 v4 (uL n g ss hs)) := hR4.mono (fun _ _ => trivial)
  obtain ⟨⟨c1, c2, c3, c4⟩, hT, hU, _⟩ := HQ.out w4 hF4
  have H5 : Hid (Unit → _) := fun (_ : Unit) => HUb.out w4 _ _ hT hU
  clear hG hR4 hF4 hT hU HUb H3
  go_wp2_with fail
  refine (H5.out ()).mono ?_
  rintro e w5 hG
  obtain ⟨v5, rfl, hR5, hF5⟩ := hG.row HI.out.1 HI.out.2
  have HF5 : Hid (Fresh W3 w5) := HF4.out.trans hF5 (fun _ _ e => e)
  have HR5 : Hid (Rk .i8 (fun _ => True) w5 v5 (uL n g ss hs)) := hR5.mono (fun _ _ => trivial)
  have H6 : Hid (Unit → _) := fun (_ : Unit) => same8_any _ _ _ _ _ w5 (HR4.out.fresh hF5) HR5.out
  clear hG hR5 hF5 H5 c1 c2 c3 c4 HF4 HR4
  go_wp2_with fail
  refine (H6.out ()).mono ?_
  rintro e w6 ⟨rfl, n6, hw6⟩
  have HF56 : Hid (Fresh w5 w6) := by show Fresh _ _; rw [hw6]; exact (Kept.refl _ _).drewN n6
  have HF6 : Hid (Fresh W3 w6) := HF5.out.trans HF56.out (fun _ _ e => e)
  have HR6 : Hid (Rk .i8 (fun _ => True) w6 v5 (uL n g ss hs)) := HR5.out.fresh HF56.out
  obtain ⟨_, _, _, hF06⟩ := HQ.out w6 HF6.out
  obtain ⟨⟨c1, c2, c3, c4⟩, _⟩ := HP.out w6 hF06
  have H7 : Hid (Unit → _) := fun (_ : Unit) => HTp.out w6 hF06
  clear hw6 H6 HF56 HF5 HR5 hF06 HTp
  go_wp2_with fail
  refine (H7.out ()).mono ?_
  rintro e w7 hG
  obtain ⟨v7, rfl, hR7, hF7⟩ := hG.row HJ.out.1 HJ.out.2
  have HF7 : Hid (Fresh W3 w7) := HF6.out.trans hF7 (fun _ _ e => e)
  have HR7 : Hid (Rk .i64 (fun _ => True) w7 v7 (tL (uL n g ss hs) c x)) := hR7.mono (fun _ _ => trivial)
  obtain ⟨_, _, _, hF07⟩ := HQ.out w7 HF7.out
  have H8 : Hid (Unit → _) := fun (_ : Unit) => refTimes_any _ _ _ _ _ _ c w7 (HR6.out.fresh hF7) (HP.out w7 hF07).2.2.2 HC.out
  clear hG hR7 hF7 H7 c1 c2 c3 c4 HF6 HR6 hF07
  go_wp2_with fail
  refine (H8.out ()).mono ?_
  rintro e w8 hG
  obtain ⟨v8, rfl, hR8, hF8⟩ := hG.row HJ.out.1 HJ.out.2
  have HF8 : Hid (Fresh W3 w8) := HF7.out.trans hF8 (fun _ _ e => e)
  have H9 : Hid (Unit → _) := fun (_ : Unit) => same64_any _ _ _ _ _ w8 (HR7.out.fresh hF8) hR8
  clear hG hR8 hF8 H8 HF7 HR7 HI HJ
  generalize tE (uL n g ss hs) c x = E1 at *
  go_wp2_with fail
  refine (H9.out ()).mono ?_
  rintro e w9 ⟨rfl, n9, hw9⟩
  have HF9 : Hid (Fresh W3 w9) := by show Fresh _ _; rw [hw9]; exact HF8.out.drewN n9
  clear hw9 H9 HF8
  obtain ⟨⟨d1, d2, d3, d4⟩, hT, hU, hF09⟩ := HQ.out w9 HF9.out
  obtain ⟨⟨c1, c2, c3, c4⟩, hR1, hR2, _⟩ := HP.out w9 hF09
  have HFw : Hid (Fresh w w9) := HF0.out.trans hF09 (fun _ _ e => e)
  have Ha : Hid (Unit → _) := fun (_ : Unit) => packed_any _ _ n g _ _ _ _ ss hs w9 hR1 hR2 hT hU
  clear hT hU hR1 hR2 hF09 HF9 HQ HP HF0
  go_wp2_with fail
  refine (Ha.out ()).mono ?_
  rintro e wa ⟨rfl, hFa⟩
  have HFa : Hid (Fresh w wa) := HFw.out.trans hFa (fun _ _ e => e)
  clear hFa Ha HFw d1 d2 d3 d4 c1 c2 c3 c4
  go_wp2
  go_ret
  exact ⟨by simp, HFa.out⟩

set_option maxHeartbeats 8000000 in
set_option maxRecDepth 100000 in
theorem walk1 (hPl : Plain) (n g c : Int) (sv hv xv : Value) (ss hs x : List Int) (w : World) (hS : Rk .u8 (fun b => b < w.heap.size) w sv ss) (hH : Rk .u8 (fun b => b < w.heap.size) w hv hs) (hx : Rk .i8 (fun b => b < w.heap.size) w xv x) (hn : I64 n) (hg : I64 g) (hc : I64 c) (h0 : uE n g ss hs ≠ 0) :
    Calls Try.prog 5 #[.agg #[zV n, zV g, sv, hv], zV c, xv] w fun e w' => e = .returned (.bool true) ∧ Fresh w w' := by
  have HAW : Hid (∀ W : World, _) := fun (W : World) => awake_any W
  obtain ⟨W0, hW0⟩ : ∃ W0, W0 = w.alloc (.cells #[zV n, zV g, sv, hv] 48) := ⟨_, rfl⟩
  have HF0 : Hid (Fresh w W0) := by show Fresh _ _; rw [hW0]; exact (Kept.refl _ w).alloc _
  have p1 : W0.heap[w.heap.size]? = some (.cells #[zV n, zV g, sv, hv] 48 (0, 0)) := by rw [hW0]; exact heap_alloc_new w _
  have HP : Hid (∀ W, Fresh W0 W → (W.cell? ⟨w.heap.size, 0, none⟩ = some (zV n) ∧ W.cell? ⟨w.heap.size, 1, none⟩ = some (zV g) ∧ W.cell? ⟨w.heap.size, 2, none⟩ = some sv ∧ W.cell? ⟨w.heap.size, 3, none⟩ = some hv) ∧ Rk .u8 (fun b => b < w.heap.size) W sv ss ∧ Rk .u8 (fun b => b < w.heap.size) W hv hs ∧ Rk .i8 (fun b => b < w.heap.size) W xv x) := fun W hF => by
    have q1 := hF.at p1 (fun e => e)
    have hFw := HF0.out.trans hF (fun _ _ e => e)
    exact ⟨⟨by rw [Lib.cell_of_heap q1]; rfl, by rw [Lib.cell_of_heap q1]; rfl, by rw [Lib.cell_of_heap q1]; rfl, by rw [Lib.cell_of_heap q1]; rfl⟩, hS.fresh hFw, hH.fresh hFw, hx.fresh hFw⟩
  have HI : Hid ((uL n g ss hs).length * kb .i8 ≤ 140737488351232 ∧ ∀ z ∈ uL n g ss hs, Fit .i8 z) := uL_i8 n g ss hs
  have HJ : Hid (([] : List Int).length * kb .i64 ≤ 140737488351232 ∧ ∀ z ∈ ([] : List Int), Fit .i64 z) := ⟨by simp, fun z hz => by cases hz⟩
  have HUa : Hid (∀ W, Fresh W0 W → Calls Try.prog 21 #[.agg #[zV n, zV g, sv, hv]] W fun e w' => Gives .i8 38 (uL n g ss hs) (uE n g ss hs) W e w') := fun W hF => Unpack_any _ n g sv hv ss hs W (HP.out W hF).2.1 (HP.out W hF).2.2.1 hn hg
  have HUb : Hid (∀ W tv uv, Rk .u8 (fun _ => True) W tv ss → Rk .u8 (fun _ => True) W uv hs → Calls Try.prog 22 #[.agg #[zV n, zV g, tv, uv]] W fun e w' => Gives .i8 38 (uL n g ss hs) (uE n g ss hs) W e w') := fun W tv uv h1 h2 => refUnpack_any _ n g tv uv ss hs W h1 h2 hn hg
  have HTp : Hid (∀ W, Fresh W0 W → Calls Try.prog 23 #[.agg #[zV n, zV g, sv, hv], zV c, xv] W fun e w' => Gives .i64 2 [] (uE n g ss hs) W e w') := fun W hF => by
    have := TimesPacked_any _ n g sv hv xv ss hs x c W (HP.out W hF).2.1 (HP.out W hF).2.2.1 (HP.out W hF).2.2.2 hn hg hc
    have e1 : tpL n g ss hs c x = [] := if_neg h0
    have e2 : tpE n g ss hs c x = (uE n g ss hs) := if_neg h0
    rwa [e1, e2] at this
  have HC : Hid (I64 c) := hc
  have HPl : Hid Plain := hPl
  obtain ⟨sa, scp, hsv, _⟩ := hS.shape
  obtain ⟨ba, bcp, hhv, _⟩ := hH.shape
  obtain ⟨xa, xcp, hxv, _⟩ := hx.shape
  subst hsv
  subst hhv
  subst hxv
  clear hS hH hx p1 hn hg hc hPl 
  have h0' : (uE n g ss hs == 0) = false := by simp [h0]
  go_enter Try.func5, Try.ntmps5
  go_wp2_with fail
  rw [← hW0]
  refine (HAW.out _).mono ?_
  rintro e w1 ⟨rfl, hF1⟩
  have HF1 : Hid (Fresh W0 w1) := hF1
  obtain ⟨⟨c1, c2, c3, c4⟩, hR1, hR2, hR3⟩ := HP.out w1 hF1
  have H1 : Hid (Unit → _) := fun (_ : Unit) => HPl.out n g _ _ _ _ w1 hR1.low hR2.low
  clear hW0 HAW hF1 hR1 hR2 hR3
  go_wp2_with fail
  refine (H1.out ()).mono ?_
  rintro e w2 ⟨tv, uv, rfl, hT, hU, hF2⟩
  have HF2 : Hid (Fresh W0 w2) := HF1.out.trans hF2 (fun _ _ e => e)
  clear c1 c2 c3 c4 H1 hF2 HF1 HPl
  obtain ⟨ta, tcp, hsv, _⟩ := hT.shape
  obtain ⟨ua, ucp, hhv, _⟩ := hU.shape
  subst hsv
  subst hhv
  obtain ⟨W3, hW3⟩ : ∃ W3, W3 = w2.alloc (.cells #[Value.int .i64 n, Value.int .i64 g, .slice ta ss.length tcp, .slice ua hs.length ucp] 51) := ⟨_, rfl⟩
  have hF23 : Fresh w2 W3 := by rw [hW3]; exact (Kept.refl _ w2).alloc _
  have HF3 : Hid (Fresh W0 W3) := HF2.out.trans hF23 (fun _ _ e => e)
  have p3 : W3.heap[w2.heap.size]? = some (.cells #[Value.int .i64 n, Value.int .i64 g, .slice ta ss.length tcp, .slice ua hs.length ucp] 51 (0, 0)) := by rw [hW3]; exact heap_alloc_new w2 _
  have HQ : Hid (∀ W, Fresh W3 W → (W.cell? ⟨w2.heap.size, 0, none⟩ = some (zV n) ∧ W.cell? ⟨w2.heap.size, 1, none⟩ = some (zV g) ∧ W.cell? ⟨w2.heap.size, 2, none⟩ = some (.slice ta ss.length tcp) ∧ W.cell? ⟨w2.heap.size, 3, none⟩ = some (.slice ua hs.length ucp)) ∧ Rk .u8 (fun _ => True) W (.slice ta ss.length tcp) ss ∧ Rk .u8 (fun _ => True) W (.slice ua hs.length ucp) hs ∧ Fresh W0 W) := fun W hF => by
    have q1 := hF.at p3 (fun e => e)
    have hFw := hF23.trans hF (fun _ _ e => e)
    exact ⟨⟨by rw [Lib.cell_of_heap q1]; rfl, by rw [Lib.cell_of_heap q1]; rfl, by rw [Lib.cell_of_heap q1]; rfl, by rw [Lib.cell_of_heap q1]; rfl⟩, hT.fresh hFw, hU.fresh hFw, HF3.out.trans hF (fun _ _ e => e)⟩
  obtain ⟨⟨c1, c2, c3, c4⟩, _⟩ := HP.out W3 HF3.out
  have H3 : Hid (Unit → _) := fun (_ : Unit) => HUa.out W3 HF3.out
  rw [hW3] at c1 c2 c3 c4
  clear hT hU hF23 p3 HUa HF2 HF3
  go_wp2_with fail
  rw [← hW3]
  clear c1 c2 c3 c4 hW3
  refine (H3.out ()).mono ?_
  rintro e w4 hG
  obtain ⟨v4, rfl, hR4, hF4⟩ := hG.row HI.out.1 HI.out.2
  have HF4 : Hid (Fresh W3 w4) := hF4
  have HR4 : Hid (Rk .i8 (fun _ => True) w4 v4 (uL n g ss hs)) := hR4.mono (fun _ _ => trivial)
  obtain ⟨⟨c1, c2, c3, c4⟩, hT, hU, _⟩ := HQ.out w4 hF4
  have H5 : Hid (Unit → _) := fun (_ : Unit) => HUb.out w4 _ _ hT hU
  clear hG hR4 hF4 hT hU HUb H3
  go_wp2_with fail
  refine (H5.out ()).mono ?_
  rintro e w5 hG
  obtain ⟨v5, rfl, hR5, hF5⟩ := hG.row HI.out.1 HI.out.2
  have HF5 : Hid (Fresh W3 w5) := HF4.out.trans hF5 (fun _ _ e => e)
  have HR5 : Hid (Rk .i8 (fun _ => True) w5 v5 (uL n g ss hs)) := hR5.mono (fun _ _ => trivial)
  have H6 : Hid (Unit → _) := fun (_ : Unit) => same8_any _ _ _ _ _ w5 (HR4.out.fresh hF5) HR5.out
  clear hG hR5 hF5 H5 c1 c2 c3 c4 HF4 HR4
  go_wp2_with fail
  refine (H6.out ()).mono ?_
  rintro e w6 ⟨rfl, n6, hw6⟩
  have HF56 : Hid (Fresh w5 w6) := by show Fresh _ _; rw [hw6]; exact (Kept.refl _ _).drewN n6
  have HF6 : Hid (Fresh W3 w6) := HF5.out.trans HF56.out (fun _ _ e => e)
  have HR6 : Hid (Rk .i8 (fun _ => True) w6 v5 (uL n g ss hs)) := HR5.out.fresh HF56.out
  obtain ⟨_, _, _, hF06⟩ := HQ.out w6 HF6.out
  obtain ⟨⟨c1, c2, c3, c4⟩, _⟩ := HP.out w6 hF06
  have H7 : Hid (Unit → _) := fun (_ : Unit) => HTp.out w6 hF06
  clear hw6 H6 HF56 HF5 HR5 hF06 HTp
  go_wp2_with fail
  refine (H7.out ()).mono ?_
  rintro e w7 hG
  obtain ⟨v7, rfl, hR7, hF7⟩ := hG.row HJ.out.1 HJ.out.2
  have HF7 : Hid (Fresh W3 w7) := HF6.out.trans hF7 (fun _ _ e => e)
  have HR7 : Hid (Rk .i64 (fun _ => True) w7 v7 []) := hR7.mono (fun _ _ => trivial)
  have HF8 : Hid (Fresh W3 w7) := HF7.out
  have H9 : Hid (Unit → _) := fun (_ : Unit) => same64_any _ (fun _ => True) _ (.slice none 0 0) _ w7 HR7.out ⟨none, 0, rfl, by simp, fun h => absurd rfl h, by simp, fun _ => rfl, by simp⟩
  clear hG hR7 hF7 H7 c1 c2 c3 c4 HF6 HR6 HF7 HR7 HI HJ
  go_wp2_with fail
  refine (H9.out ()).mono ?_
  rintro e w9 ⟨rfl, n9, hw9⟩
  have HF9 : Hid (Fresh W3 w9) := by show Fresh _ _; rw [hw9]; exact HF8.out.drewN n9
  clear hw9 H9 HF8
  obtain ⟨⟨d1, d2, d3, d4⟩, hT, hU, hF09⟩ := HQ.out w9 HF9.out
  obtain ⟨⟨c1, c2, c3, c4⟩, hR1, hR2, _⟩ := HP.out w9 hF09
  have HFw : Hid (Fresh w w9) := HF0.out.trans hF09 (fun _ _ e => e)
  have Ha : Hid (Unit → _) := fun (_ : Unit) => packed_any _ _ n g _ _ _ _ ss hs w9 hR1 hR2 hT hU
  clear hT hU hR1 hR2 hF09 HF9 HQ HP HF0
  go_wp2_with fail
  refine (Ha.out ()).mono ?_
  rintro e wa ⟨rfl, hFa⟩
  have HFa : Hid (Fresh w wa) := HFw.out.trans hFa (fun _ _ e => e)
  clear hFa Ha HFw d1 d2 d3 d4 c1 c2 c3 c4
  go_wp2
  go_ret
  exact ⟨by simp, HFa.out⟩

theorem walk (n g c : Int) (sv hv xv : Value) (ss hs x : List Int) (w : World) (hS : Rk .u8 (fun b => b < w.heap.size) w sv ss) (hH : Rk .u8 (fun b => b < w.heap.size) w hv hs) (hx : Rk .i8 (fun b => b < w.heap.size) w xv x) (hn : I64 n) (hg : I64 g) (hc : I64 c) :
    Calls Try.prog 5 #[.agg #[zV n, zV g, sv, hv], zV c, xv] w fun e w' => e = .returned (.bool true) ∧ Fresh w w' := by
  by_cases h0 : uE n g ss hs = 0
  · exact walk0 plain_any n g c sv hv xv ss hs x w hS hH hx hn hg hc h0
  · exact walk1 plain_any n g c sv hv xv ss hs x w hS hH hx hn hg hc h0

set_option maxRecDepth 100000 in
theorem contract (H : Type) (enc : TypeId × Value → H) (W : World) (base : Nat) (args : Array Value) (ds gs : List (DataW H)) (before : List MemPlace)
    (hval : ∀ (j : Nat) t v, Try.f5.params[j]? = some t → args[j]? = some v → Value.okWide Try.prog W .any base t v)
    (hW : DataW.Whole enc Try.prog Try.f5.params.toList Rows.vecUnpacksSpec.vars false W args.toList ds gs before) 
    (hsz : (DataW.weightsEach Try.prog (Try.f5.params.toList ++ []) (ds ++ gs)).all (· ≤ reachBytes) = true) (hL : laidMetH Try.prog Rows.vecUnpacksRow.laid W) :
    Calls Try.prog 5 args W fun e W' => ∃ v, e = .returned v ∧ Rows.vecUnpacksSpec.post enc Try.prog Try.f5 false true false false W args v W' := by
  have hW' := hW
  obtain ⟨p, q, hA0, hV, rfl, hfz, hnd⟩ := hW
  have hA : DataW.TrodAll enc Try.prog W 0 (fun _ => true) true Try.f5.params.toList args.toList ds p := hA0
  rw [Try.params5] at hA hval hsz
  obtain ⟨rfl, rfl⟩ := trodVars_none hV
  have _hL := hL
  obtain ⟨v0, v1, v2, d0, d1, d2, p0, p1, p2, rfl, rfl, rfl, h0, h1, h2⟩ := trodAll_three hA
  obtain ⟨x1, rfl, rfl, rfl, w1⟩ := open_int Try.underlying3 (hval 1 3 v1 rfl rfl) h1
  obtain ⟨sv, hv, n, g, ss, hs, rfl, hn, hg, hS, hH⟩ := packed_of (hval 0 48 v0 rfl rfl) h0 hsz (j := 0) rfl rfl
  obtain ⟨ao, ln, cap, rfl⟩ := okWide_slice Try.underlying22 (hval 2 22 v2 rfl rfl)
  obtain ⟨fuel, hf⟩ := h2
  obtain ⟨ys, hy, _⟩ := row_of ty8 (x := (d2, _)) hf (fun es sp e => by
    have e' : d2 = .slice es sp := e
    subst e'
    have := sized_slice hsz (j := 2) (t := 22) (e := 38) rfl rfl Try.underlying22
    rw [Try.b8] at this
    simp only [reachBytes] at this
    simp [kb]
    omega)
  refine (walk n g x1 sv hv _ ss hs ys W hS hH hy hn hg (i64_of w1)).mono fun e W' ⟨he, hk⟩ => ?_
  subst he
  exact ⟨_, rfl, post_law rfl (by kernel_rfl) (by kernel_rfl) hW' rfl hk⟩

set_option maxRecDepth 100000 in
theorem laid_met (os : Os) : laidMet Try.prog Rows.vecUnpacksRow.laid ((layIn (World.holding Try.prog os ⟨#[], #[], []⟩)).forCall (fun _ _ => 0) ⟨#[], #[.agg #[.int .i64 0, .int .i64 0, .slice none 0 0, .slice none 0 0], .int .i64 0, .slice none 0 0], []⟩).memory :=
  laidMet_of_run' 8 (by kernel_rfl) (by kernel_rfl)
set_option maxRecDepth 100000 in
theorem reads (os : Os) {H : Type} (enc : TypeId × Value → H) : ∃ places, DataW.whole enc Try.prog ((layIn (World.holding Try.prog os ⟨#[], #[], []⟩)).forCall (fun _ _ => 0) ⟨#[], #[.agg #[.int .i64 0, .int .i64 0, .slice none 0 0, .slice none 0 0], .int .i64 0, .slice none 0 0], []⟩).memory Try.f5.params.toList Rows.vecUnpacksSpec.vars false (#[.agg #[.int .i64 0, .int .i64 0, .slice none 0 0, .slice none 0 0], .int .i64 0, .slice none 0 0] : Array Value).toList 8 = some ([.agg [.lit (.int .i64 0), .lit (.int .i64 0), .nil, .nil], .lit (.int .i64 0), .nil], [], places) :=
  ⟨[], by kernel_rfl⟩

set_option maxRecDepth 100000 in
theorem lifted (os : Os) (started : os.Started) (H : Type) (enc : TypeId × Value → H) (F : Stop.Interp) :
    ReturnsInHanded {} Try.checked os 5 .any ((OpenSpec.ofChange Rows.vecUnpacksSpec).preRow enc Try.prog Try.f5 Rows.vecUnpacksRow.domain false Rows.vecUnpacksRow.laid) (((OpenSpec.ofChange Rows.vecUnpacksSpec).at F).post enc Try.prog Try.f5 false true false false) := by
  obtain ⟨places, hx⟩ := reads os enc
  refine returnsInHanded_of_row (C := Try.checked) (s := OpenSpec.ofChange Rows.vecUnpacksSpec) Try.own started (by kernel_rfl) Try.func5
    (witness_row_at (enc := enc) (C := Try.checked) false (layIn (World.holding Try.prog os ⟨#[], #[], []⟩)) #[.agg #[.int .i64 0, .int .i64 0, .slice none 0 0, .slice none 0 0], .int .i64 0, .slice none 0 0] rfl (by kernel_rfl) (by kernel_rfl) (by kernel_rfl)
      (OpenSpec.preRow_of_cond 8 hx (by kernel_rfl) (fun k hk => by cases hk) (by kernel_rfl) (laid_met os))) ?_
  intro W base args ds gs before hval hW _ hc hsz hL _ _
  exact contract H enc W base args ds gs before hval hW hsz hL

theorem said : Rows.VecUnpacksSaid :=
  OpenClaim.holds_of_cond 5 Try.f5 rfl rfl rfl rfl rfl rfl rfl ⟨rfl, rfl, rfl, rfl, rfl⟩ rfl rfl rfl rfl rfl (by kernel_rfl) Try.func5 (by kernel_rfl)
    (of_decide_eq_true (by kernel_rfl)) (by unfold Func.isWrapper; first | (rw [if_pos (by decide +kernel)]; kernel_rfl) | (rw [if_neg (by decide +kernel)]; exact ⟨rfl, rfl⟩))
    (fun os started H enc _ F => by rw [OpenClaim.pre_eq_preRow]; exact lifted os started H enc F)


end Go.Proofs.Ytjffiojjjmecgab.Unpacks8
namespace Go.Proofs.Ytjffiojjjmecgab
theorem vecUnpacks_holds : Rows.VecUnpacksSaid := Unpacks8.said
end Go.Proofs.Ytjffiojjjmecgab
