/-
  Numbers: timesWord, number, Of, power, Bits.
-/
import Derived.Test.YtodomdgaoplhpabDoorWt
namespace Go.Proofs.YtodomdgaoplhpabDoor
open Go.RowKit

set_option maxHeartbeats 1000000 in
set_option maxRecDepth 100000 in
theorem timesWord_any (xv : Value) (M m : Nat) (w : World) (hx : Nm w xv M) (hm : m < 18446744073709551616) (hb : bl M ≤ 1099511627776) :
    Calls Tryd.prog 15 #[xv, .int .u64 m] w fun e w' => ∃ v', e = .returned v' ∧ (Nm w' v' (M * m) ∧ Fresh w w') := by
  obtain ⟨i0, hi, hz0, hz1, hz2⟩ := info_parts Tryd.infoU
  obtain ⟨X, hX, hcX, hvX, _⟩ := hx
  have hlX := nm_len hX.dg hcX
  rw [hvX] at hlX
  have hXl : X.length ≤ 17179869185 := by omega
  have hdX := hX.dg
  have hcl := clone_any _ xv X w hX (by omega)
  obtain ⟨xa, xc, rfl⟩ := hX.shape
  clear hX hlX hcX hb
  go_enter Tryd.func15, Tryd.ntmps15
  go_wp2_with fail
  refine hcl.mono ?_
  rintro e w1 ⟨v1, rfl, hown, hF1⟩
  have hW1 := hF1.size
  obtain ⟨va, vc, rfl⟩ : ∃ a c, v1 = .slice a X.length c := by
    rcases hown.2 with ⟨h, h0⟩ | ⟨g, cap, cur, h, _⟩
    · exact ⟨none, 0, by rw [h, h0]⟩
    · exact ⟨_, cap, h⟩
  clear hcl
  go_wp2_with (at_builtin; refine wpList_append_lies _ rfl _ _ _ rfl w.heap.size 43 i0 _ 1 8 Tryd.underlying24 hi hz0 hz1 hz2 rfl (by omega) (.slice va X.length vc) _ _ rfl (hown.alloc _) ⟨w1.heap.size, 0, none⟩ 1 1 [.int .u64 0] rfl rfl (World.news_of_block (cs := #[.int .u64 0]) (t := 43) (fr := (0, 0)) (heap_alloc_new w1 _)) (by simp [Value.oneCell']) (by omega) (by unfold maxLen; omega) (by omega) (by simp; omega) (w1.heap.size + 1) (by simp) ?_; intro g cap w2 hown2 hgrow hat hlt)
  have hk2 : Kept (fun k => (Value.slice va X.length vc).ownBlock = some k) w1 w2 := ((Kept.refl _ w1).alloc _).grown hgrow (fun k _ e => e)
  have hF2 : Fresh w w2 := hF1.trans hk2 (fun i hi e => by
    have := (World.ownsRow.lt hown i e).1
    omega)
  rw [show enW .u64 X ++ [.int .u64 0] = enW .u64 (X ++ [0]) by simp [enW]] at hown2
  obtain ⟨S, hO2, hg, hcap, _, hl2⟩ := ow_of_own hown2
  have hgl := hO2.lt
  have hdX0 : Dg 18446744073709551616 (X ++ [0]) := hdX.append (Dg.one (by omega))
  have hsc := scale_any g cap [] S (X ++ [0]) m 0 w2 hO2 hdX0 (by rw [hl2]; omega) hm (by omega)
  rw [hl2] at hsc
  clear hown hown2 hgrow hat hlt hk2 hO2
  go_wp2_with fail
  refine hsc.mono ?_
  rintro e w3 ⟨rfl, Z, o, hZl, hdZ, hvZ, hO3, hk3⟩
  have hF3 : Fresh w w3 := hF2.trans hk3 (fun i hi e => by have e' : i = g := e; omega)
  have hvv : val 18446744073709551616 Z = M * m := by
    have h1 := val_lt (by omega) hdX
    have h2 := val_snoc 18446744073709551616 X 0
    rw [Nat.mul_zero, Nat.add_zero] at h2
    rw [hl2, h2, Nat.add_zero, Nat.pow_succ] at hvZ
    have h3 : m * val 18446744073709551616 X < 18446744073709551616 ^ X.length * 18446744073709551616 := by
      rw [Nat.mul_comm]
      exact Nat.mul_lt_mul'' h1 hm
    have ho : o = 0 := by
      rcases Nat.eq_zero_or_pos o with h | h
      · exact h
      · have := Nat.le_mul_of_pos_right (18446744073709551616 ^ X.length * 18446744073709551616) h
        omega
    subst ho
    rw [Nat.mul_zero, Nat.add_zero, hvX, Nat.mul_comm] at hvZ
    exact hvZ
  have hD := Ow.dw (B := 18446744073709551616) (cap := cap) hO3 hdZ (by rw [hZl, hl2]; exact hcap) (by rw [hZl, hl2]; omega) (by omega)
  rw [hZl, hl2] at hD
  have ht := trim_any _ _ _ _ hD
  have HF := show Hid _ from hF3
  have HU := show Hid _ from Ow.isU hO3
  have HVV := show Hid _ from hvv
  clear hD hF3 hF2 hO3 hvZ hdZ hsc hF1
  go_wp2_with fail
  refine ht.mono ?_
  rintro e w4 ⟨v', rfl, hT, rfl⟩
  have hN := nm_of_trim hT HU.out
  rw [HVV.out] at hN
  have HN := show Hid _ from hN
  clear hT hN
  go_wp2
  go_ret
  exact ⟨_, rfl, HN.out, HF.out⟩

/-- A number that may be too great. -/
def fitN (N : Nat) : Nat := if 65536 < bl N then 0 else N
def fitE (N : Nat) : Int := if 65536 < bl N then 41 else 0
theorem fit_in {N : Nat} (h : bl N ≤ 65536) : fitN N = N ∧ fitE N = 0 := ⟨if_neg (by omega), if_neg (by omega)⟩
theorem fit_out {N : Nat} (h : 65536 < bl N) : fitN N = 0 ∧ fitE N = 41 := ⟨if_pos h, if_pos h⟩

theorem agg1 (w : World) (v : Value) (t : TypeId) : (w.alloc (.cells #[v] t)).cell? ⟨w.heap.size, 0, none⟩ = some v := by
  rw [Lib.cell_of_heap (heap_alloc_new w _)]; rfl

set_option maxHeartbeats 400000 in
set_option maxRecDepth 100000 in
theorem number_any (v : Value) (N : Nat) (w : World) (h : Nm w v N) :
    Calls Tryd.prog 17 #[v] w fun e w' => ∃ v', e = .returned (.tuple #[.agg #[v'], .int .i64 (fitE N)]) ∧ (Nm w' v' (fitN N) ∧ Fresh w w') := by
  obtain ⟨va, vn, vc, rfl⟩ := h.shape
  obtain ⟨L, hL, hc, rfl, _⟩ := h
  have hbits := fun W (hk : Fresh w W) => bits_any _ _ L W (Dw.fresh hL hk) hc
  have HN := show Hid _ from (show Nm w (.slice va vn vc) (val 18446744073709551616 L) from ⟨L, hL, hc, rfl, by assumption⟩)
  clear hL hc
  generalize val 18446744073709551616 L = N at *
  by_cases hf : 65536 < bl N
  · obtain ⟨e1, e2⟩ := fit_out hf
    rw [e1, e2]
    generalize bl N = K at *
    go_enter Tryd.func17, Tryd.ntmps17
    go_wp2_with fail
    refine (hbits _ ((Kept.refl _ _).alloc _)).mono ?_
    rintro e w1 ⟨rfl, rfl⟩
    go_wp2
    have r0 := agg1 w (.slice none 0 0) 26
    exact bodyPost_ret (v := .tuple #[.agg #[.slice none 0 0], .int .i64 41]) (by simp [results, Tryd.results17, go_sem, r0]) rfl ⟨_, rfl, nm_zero _, (Kept.refl _ _).alloc _⟩
  · obtain ⟨e1, e2⟩ := fit_in (N := N) (by omega)
    rw [e1, e2]
    generalize bl N = K at *
    go_enter Tryd.func17, Tryd.ntmps17
    go_wp2_with fail
    refine (hbits _ ((Kept.refl _ _).alloc _)).mono ?_
    rintro e w1 ⟨rfl, rfl⟩
    go_wp2
    have r0 := agg1 w (.slice va vn vc) 26
    exact bodyPost_ret (v := .tuple #[.agg #[.slice va vn vc], .int .i64 0]) (by simp [results, Tryd.results17, go_sem, r0]) rfl ⟨_, rfl, Nm.fresh HN.out ((Kept.refl _ _).alloc _), (Kept.refl _ _).alloc _⟩

set_option maxHeartbeats 400000 in
set_option maxRecDepth 100000 in
theorem of_any (n : Nat) (w : World) (hn : n < 9223372036854775808) :
    Calls Tryd.prog 10 #[.int .i64 n] w fun e w' => ∃ v', e = .returned (.tuple #[.agg #[v'], .int .i64 0]) ∧ (Nm w' v' n ∧ Fresh w w') := by
  have hw := fun W => word_any n W (by omega)
  obtain ⟨f1, f2⟩ := fit_in (N := n) (Nat.le_trans (bl_le (k := 63) (by omega)) (by omega))
  go_enter Tryd.func10, Tryd.ntmps10
  go_wp2_with fail
  refine (hw _).mono ?_
  rintro e w1 ⟨v1, rfl, hN1, hF1⟩
  have hnum := number_any v1 n w1 hN1
  obtain ⟨a1, n1, c1, rfl⟩ := hN1.shape
  rw [f1, f2] at hnum
  have hb0 : w1.heap[w.heap.size]? = some (.cells #[.slice none 0 0] 26 (0, 0)) := hF1.at (heap_alloc_new w _) (fun e => e)
  have HB := show Hid _ from hb0
  have HF := show Hid _ from hF1
  clear hw f1 f2 hN1 hb0 hF1
  go_wp2_with fail
  refine hnum.mono ?_
  rintro e w2 ⟨v2, rfl, hN2, hF2⟩
  obtain ⟨a2, n2, c2, rfl⟩ := hN2.shape
  have hb2 : w2.heap[w.heap.size]? = some (.cells #[.slice none 0 0] 26 (0, 0)) := hF2.at HB.out (fun e => e)
  have hc2 := Lib.cell_of_heap hb2 0
  rw [show (#[Value.slice none 0 0] : Array Value)[0]? = some (.slice none 0 0) from rfl] at hc2
  have hf2 := Lib.frozen_of_heap hb2 0
  have hset := heap_setCell_same w2 w.heap.size 0 _ _ (.slice a2 n2 c2) hb2
  have r0 := Lib.cell_of_heap hset 0
  rw [show ((#[Value.slice none 0 0] : Array Value).setIfInBounds 0 (.slice a2 n2 c2))[0]? = some (.slice a2 n2 c2) from rfl] at r0
  have hF3 : Fresh w (w2.setCell ⟨w.heap.size, 0, none⟩ (.slice a2 n2 c2)) := by
    have h1 : Fresh w w2 := (((Kept.refl _ _).alloc _).trans HF.out (fun _ _ e => e)).trans hF2 (fun _ _ e => e)
    exact h1.setCell (p := ⟨w.heap.size, 0, none⟩) (fun e => by simp at e) _
  have HF3 := show Hid _ from hF3
  have HN3 : Hid (Nm (w2.setCell ⟨w.heap.size, 0, none⟩ (.slice a2 n2 c2)) (.slice a2 n2 c2) n) := nm_set hN2 hb2 (by decide) _ _
  clear hb2 hset hF3 hF2 hN2 HB HF
  go_wp2
  exact bodyPost_ret (v := .tuple #[.agg #[.slice a2 n2 c2], .int .i64 0]) (by simp [results, Tryd.results10, go_sem, r0]) rfl ⟨_, rfl, HN3.out, HF3.out⟩
end Go.Proofs.YtodomdgaoplhpabDoor
