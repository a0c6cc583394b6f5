/-
  For every number and every list NatMakes answers true: awake does, Of and Product answer as the document says, and the list stays.
-/
import Derived.Test.YtgdkbiidjaplhaaDoorPe
import Derived.Deep.RegionHeld3
namespace Go.Proofs.YtgdkbiidjaplhaaDoor.LMakes
open Go.ChangeShapes Go.WideShapes Go.ChangeAt Go.RowKit

set_option maxHeartbeats 400000 in
set_option maxRecDepth 100000 in
theorem of_neg (n : Int) (w : World) (hn : n < 0) :
    Calls Tryd.prog 5 #[.int .i64 n] w fun e w' => ∃ v', e = .returned (.tuple #[.agg #[v'], .int .i64 40]) ∧ (Nm w' v' 0 ∧ Fresh w w') := by
  have hc0 := (Ax.made w (.slice none 0 0)).c
  go_enter Tryd.func5, Tryd.ntmps5
  go_wp2
  exact bodyPost_ret (v := .tuple #[.agg #[.slice none 0 0], .int .i64 40]) (by simp [results, Tryd.results5, go_sem, hc0]) rfl ⟨_, rfl, nm_zero _, (Kept.refl _ _).alloc _⟩

set_option maxHeartbeats 400000 in
set_option maxRecDepth 100000 in
theorem refOf_neg (n : Int) (w : World) (hn : n < 0) :
    Calls Tryd.prog 7 #[.int .i64 n] w fun e w' => ∃ v', e = .returned v' ∧ (Rn w' v' 0 ∧ Fresh w w') := by
  have hR := rn_of_own (X := []) (ownI_empty w) (Dg.nil _) Can.nil (by simp)
  have HR := show Hid _ from hR
  clear hR
  go_enter Tryd.func7, Tryd.ntmps7
  go_wp2
  go_loop [0, 3] (fun a b => a = .int .i64 n ∧ b = .slice (some ⟨w.heap.size, 0, none⟩) 0 0) (fun _ _ => 0)
  case atStart => exact ⟨rfl, rfl⟩
  case round =>
    obtain ⟨rfl, rfl⟩ := hrel
    go_wp2
    go_ret
    exact ⟨_, rfl, HR.out, (Kept.refl _ _).alloc _⟩

/-- The number and the error of Of. -/
def oV (n : Int) : Nat := n.toNat
def oE (n : Int) : Int := if n < 0 then 40 else 0
theorem of_all (n : Int) (w : World) (h : I64 n) : Calls Tryd.prog 5 #[.int .i64 n] w fun e w' => ∃ v', e = .returned (.tuple #[.agg #[v'], .int .i64 (oE n)]) ∧ (Nm w' v' (oV n) ∧ Fresh w w') := by
  unfold oE oV
  rcases Int.lt_or_le n 0 with c | c
  · rw [if_pos c, show n.toNat = 0 by omega]
    exact of_neg n w c
  · rw [if_neg (by omega)]
    obtain ⟨m, rfl⟩ : ∃ m : Nat, n = m := ⟨n.toNat, by omega⟩
    rw [Int.toNat_natCast]
    exact of_any m w (by have := h.2; omega)
theorem refOf_all (n : Int) (w : World) (h : I64 n) : Calls Tryd.prog 7 #[.int .i64 n] w fun e w' => ∃ v', e = .returned v' ∧ (Rn w' v' (oV n) ∧ Fresh w w') := by
  unfold oV
  rcases Int.lt_or_le n 0 with c | c
  · rw [show n.toNat = 0 by omega]
    exact refOf_neg n w c
  · obtain ⟨m, rfl⟩ : ∃ m : Nat, n = m := ⟨n.toNat, by omega⟩
    rw [Int.toNat_natCast]
    exact refOf_any m w (by have := h.2; omega)
theorem pV_bl (l : List Int) : bl (pV l) ≤ 65536 := by
  unfold pV
  split
  · simp [bl]
  · exact bl_fit _
theorem oV_bl (n : Int) (h : I64 n) : bl (oV n) ≤ 65536 := Nat.le_trans (bl_le (k := 63) (by unfold oV; have := h.2; omega)) (by omega)

/-- The box of the number, in a world that has grown. -/
def Hd (W0 : World) (b : Nat) (v : Value) (X : World) : Prop := X.cell? ⟨b, 0, none⟩ = some v ∧ Fresh W0 X
theorem Hd.next {W0 : World} {b : Nat} {v : Value} {X Y : World} (h : Hd W0 b v X) (hb : b < W0.heap.size) (hF : Fresh X Y) : Hd W0 b v Y :=
  ⟨(hF.cell (p := ⟨b, 0, none⟩) (Nat.lt_of_lt_of_le hb h.2.size) (fun e => e)).trans h.1, h.2.trans hF (fun _ _ e => e)⟩

set_option maxHeartbeats 2000000 in
set_option maxRecDepth 100000 in
theorem walk (n : Int) (lv : Value) (zs : List Int) (w : World) (hn : I64 n) (hr : Rw w lv zs) (hT : Pw w) :
    Calls Tryd.prog 3 #[.int .i64 n, lv] w fun e w' => e = .returned (.bool true) ∧ Fresh w w' := by
  have HT := show Hid _ from hT
  have HR := show Hid _ from hr
  have HI := show Hid _ from hn
  have haw := awake_any w hT
  obtain ⟨la, lc, rfl⟩ := hr.shape
  clear hr hn hT
  go_enter Tryd.func3, Tryd.ntmps3
  go_wp2_with fail
  refine haw.mono ?_
  rintro e w1 ⟨rfl, hF1⟩
  have hof := of_all n w1 HI.out
  have HF1 := show Hid _ from hF1
  clear haw hF1
  go_wp2_with fail
  refine hof.mono ?_
  rintro e w2 ⟨v2, rfl, hN2, hF2⟩
  obtain ⟨a2, k2, c2, rfl⟩ := hN2.shape
  have hF3 : Fresh w2 (w2.alloc (.cells #[.slice a2 k2 c2] 27)) := (Kept.refl _ _).alloc _
  have HF3 : Hid (Fresh w (w2.alloc (.cells #[.slice a2 k2 c2] 27))) := (HF1.out.trans hF2 (fun _ _ e => e)).trans hF3 (fun _ _ e => e)
  have HN3 := show Hid _ from hN2.fresh hF3
  have HB3 := show Hid _ from (heap_alloc_new w2 (.cells #[.slice a2 k2 c2] 27))
  have hwB : w.heap.size ≤ w2.heap.size := Nat.le_trans HF1.out.size hF2.size
  clear hof hN2 hF2 hF3 HF1
  go_upto_if 20 with fail
  have hsz3 : w2.heap.size < (w2.alloc (.cells #[.slice a2 k2 c2] 27)).heap.size := by simp
  generalize (w2.alloc (.cells #[.slice a2 k2 c2] 27)) = W3 at *
  generalize w2.heap.size = xb at *
  go_cut [7] (fun f w' => f = .int .i64 (oE n) ∧ w' = W3)
  case first =>
    rcases Int.lt_or_le n 0 with c | c
    · have HE : Hid (oE n = 40) := if_pos c
      go_wp2
      go_meet
      case rel => exact ⟨by rw [HE.out], rfl⟩
    · have HE : Hid (oE n = 0) := if_neg (by omega)
      go_wp2
      go_meet
      case rel => exact ⟨by rw [HE.out], rfl⟩
  case rest =>
    obtain ⟨rfl, hwc⟩ := hcut
    have hwc' := hwc.symm
    clear hwc
    subst hwc'
    have hro := fun W => refOf_all n W HI.out
    have his := fun W (v : Value) (hF : Fresh W3 W) (hR : Rn W v (oV n)) => is_any (.slice a2 k2 c2) v (oV n) (oE n) W (Nm.fresh HN3.out hF) hR (oV_bl n HI.out) (Pw.fresh HT.out (HF3.out.trans hF (fun _ _ e => e)))
    have hS0 : Hd W3 xb (.slice a2 k2 c2) W3 := ⟨by rw [Lib.cell_of_heap HB3.out]; rfl, Kept.refl _ _⟩
    generalize oE n = E at *
    go_upto_region 7 with fail
    go_cut [27] (fun c w' => c = .bool false ∧ Fresh W3 w')
    case first =>
      go_region_held3 (fun X => X.cell? ⟨xb, 0, none⟩ = some (.slice a2 k2 c2) ∧ Fresh W3 X) (first | exact ⟨hS0.1, (Kept.refl _ _).drew⟩ | exact hS' | assumption) (first | (go_at_call 7; have hFw : Hd W3 xb (.slice a2 k2 c2) _ := (by assumption); refine (hro _).mono ?_; rintro r X ⟨v', rfl, hR, hX⟩; have hS' : Hd W3 xb (.slice a2 k2 c2) X := hFw.next hsz3 hX) | (go_at_call 6; have hFw : Hd W3 xb (.slice a2 k2 c2) _ := (by assumption); refine (his _ _ hFw.2 hR).mono ?_; rintro r X ⟨rfl, hX⟩; have hS' : Hd W3 xb (.slice a2 k2 c2) X := hFw.next hsz3 hX))
      go_wp2
      go_meet
      case rel => exact ⟨rfl, hS'.2⟩
    case rest =>
      obtain ⟨rfl, hF4⟩ := hcut
      have hF5 : Fresh w wc := HF3.out.trans hF4 (fun _ _ e => e)
      have hxb4 : wc.heap[xb]? = some (.cells #[.slice a2 k2 c2] 27 (0, 0)) := hF4.at HB3.out (fun e => e)
      have hxlt := lt_of_heap hxb4
      obtain ⟨tv, W6, hrun, hown6, hgrow⟩ := twin64 22 _ wc.heap.size _ (own64_empty wc) (by simp) _ zs (Rw.fresh (Rw.fresh HR.out hF5) ((Kept.refl (fun _ => False) _).alloc _))
      have hk6 : Fresh wc W6 := ((Kept.refl _ _).alloc _).grown hgrow (fun k hk e => by simp [Value.ownBlock] at e; omega)
      obtain ⟨ta, tc, rfl⟩ : ∃ a c, tv = .slice a zs.length c := by
        rcases hown6.2 with ⟨h, h0⟩ | ⟨g, cap, cur, h, _⟩
        · exact ⟨none, 0, by rw [h, h0]⟩
        · exact ⟨_, cap, h⟩
      have hzl : zs.length ≤ 17592186044416 := by obtain ⟨_, _, _, h, _⟩ := HR.out; exact h
      have hzI : ∀ z ∈ zs, I64 z := by obtain ⟨_, _, _, _, _, h, _⟩ := HR.out; exact h
      have hpr := product_any _ zs W6 (rw_of_own hown6 hzl hzI)
      have HF6 : Hid (Fresh w W6) := hF5.trans hk6 (fun _ _ e => e)
      have HX6 : Hid (W6.heap[xb]? = some (.cells #[.slice a2 k2 c2] 27 (0, 0))) := hk6.at hxb4 (fun e => e)
      have HO6 := show Hid _ from hown6
      have HZI := show Hid _ from hzI
      clear hown6 hgrow hk6 hxb4 hF5 hF4 HF3 HN3 HB3 hS0 hro his hzI
      go_wp2_with (at_builtin; refine Lib.wpList_append_run _ rfl _ _ _ _ rfl _ _ rfl rfl _ _ hrun ?_)
      clear hrun
      refine hpr.mono ?_
      rintro e w7 ⟨v7, rfl, hN7, hF7⟩
      obtain ⟨a7, k7, c7, rfl⟩ := hN7.shape
      have hx7 : w7.heap[xb]? = some (.cells #[.slice a2 k2 c2] 27 (0, 0)) := hF7.at HX6.out (fun e => e)
      have hc7 := Lib.cell_of_heap hx7 0
      rw [show (#[Value.slice a2 k2 c2] : Array Value)[0]? = some (.slice a2 k2 c2) from rfl] at hc7
      have hf7 := Lib.frozen_of_heap hx7 0
      have hx8 := heap_setCell_same w7 xb 0 _ _ (.slice a7 k7 c7) hx7
      have hF8 : Fresh w (w7.setCell ⟨xb, 0, none⟩ (.slice a7 k7 c7)) := (HF6.out.trans hF7 (fun _ _ e => e)).setCell (p := ⟨xb, 0, none⟩) (fun e => by simp at e; omega) _
      have hN8 : Nm (w7.setCell ⟨xb, 0, none⟩ (.slice a7 k7 c7)) (.slice a7 k7 c7) (pV zs) := nm_set hN7 hx7 (by decide) _ _
      have hO8 := owns_kept (owns_kept HO6.out hF7 (fun _ _ e => e)) (kept_set w7 xb 0 (.slice a7 k7 c7)) (fun g e h => by
        have h1 := (World.ownsRow.lt HO6.out g e).1
        have h' : g = xb := h
        omega)
      have hrp := refProduct_any _ zs _ (Rw.fresh HR.out hF8)
      have HX8 := show Hid _ from hx8
      have HF8 := show Hid _ from hF8
      have HN8 := show Hid _ from hN8
      have HO8 := show Hid _ from hO8
      clear hx8 hF8 hN8 hO8 hx7 hN7 hF7 HX6 HF6 HO6 hpr
      go_wp2_with fail
      refine hrp.mono ?_
      rintro e w9 ⟨v9, rfl, hN9, hF9⟩
      obtain ⟨a9, k9, c9, rfl⟩ := hN9.shape
      have hx9 := hF9.at HX8.out (fun e => e)
      have hc9 := Lib.cell_of_heap hx9 0
      rw [show ((#[Value.slice a2 k2 c2] : Array Value).setIfInBounds 0 (.slice a7 k7 c7))[0]? = some (.slice a7 k7 c7) from rfl] at hc9
      have hF10 : Fresh w w9 := HF8.out.trans hF9 (fun _ _ e => e)
      have hN10 := Nm.fresh HN8.out hF9
      have hO10 := owns_kept HO8.out hF9 (fun _ _ e => e)
      obtain ⟨_, _, e1, _, ht1, _⟩ := rw_of_own hO10 hzl HZI.out
      cases e1
      obtain ⟨_, _, e2, _, hl1, _⟩ := Rw.fresh HR.out hF10
      cases e2
      have hfin := is_any _ _ (pV zs) (pE zs) w9 hN10 hN9 (pV_bl zs) (Pw.fresh HT.out hF10)
      have HF10 := show Hid _ from hF10
      have HT1 := show Hid _ from ht1
      have HL1 := show Hid _ from hl1
      generalize pE zs = PE at *
      clear hrp hN9 hF9 hN10 hO10 HX8 HF8 HN8 HO8 hx9 hF10 ht1 hl1 hc7 hf7
      go_wp2_with fail
      go_loop [43] (fun c => ∃ j : Nat, j ≤ zs.length ∧ c = .int .i64 (j : Int)) (fun c => zs.length - (intOf c).toNat)
      case atStart => exact ⟨0, by omega, rfl⟩
      case round =>
        obtain ⟨j, hj, rfl⟩ := hrel
        by_cases hlt : j < zs.length
        · obtain ⟨tb, tof, rfl, _, htc⟩ := HT1.out (fun e => by rw [e] at hlt; simp at hlt)
          obtain ⟨lb, lof, rfl, _, hlc⟩ := HL1.out (fun e => by rw [e] at hlt; simp at hlt)
          have h1 := htc j hlt
          have h2 := hlc j hlt
          have hj0 : (0 : Int) ≤ (j : Int) := by omega
          have hj1 : (j : Int) < (zs.length : Int) := by omega
          clear htc hlc HT1 HL1
          generalize zs.getD j 0 = Z at *
          go_wp2
          go_round
          case rel => exact ⟨j + 1, by omega, by go_num⟩
          case measure => simp [intOf]; omega
        · go_wp2_with fail
          refine hfin.mono ?_
          rintro e w11 ⟨rfl, hF11⟩
          have HF11 : Hid (Fresh w w11) := HF10.out.trans hF11 (fun _ _ e => e)
          clear hfin hF11 HF10
          go_wp2
          go_ret
          exact ⟨rfl, HF11.out⟩

end Go.Proofs.YtgdkbiidjaplhaaDoor.LMakes
