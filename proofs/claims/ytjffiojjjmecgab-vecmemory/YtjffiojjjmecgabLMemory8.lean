/-
  For every matrix, every place and every shift the statement VecMemory answers true: awake does; Row and Batch are the document's; lists that came out are the caller's own: what is stored in one of them, or appended to it, shows in no other.
-/
import Derived.Test.YtjffiojjjmecgabVcx
import Derived.Test.YtjffiojjjmecgabVcf
import Derived.Test.YtjffiojjjmecgabVcs
namespace Go.Proofs.Ytjffiojjjmecgab.Memory8
open Go.ChangeShapes Go.WideShapes Go.ChangeAt Go.RowKit Go.Lib Go.Maps

theorem copy8 (w W : World) (hF : Fresh w W) (av : Value) (A : List Int) (hA : Rk .i8 (fun b => b < w.heap.size) w av A) :
    ∃ ta tc W1, (Builtin.append_ #[22, 22] 22 #[.slice (some ⟨W.heap.size, 0, none⟩) 0 0, av]).run Try.prog (W.alloc (.cells #[] 38)) = .ok (.slice ta A.length tc) W1 ∧ Fresh W W1 ∧ Rk .i8 (fun b => W.heap.size ≤ b ∧ b < W1.heap.size) W1 (.slice ta A.length tc) A := by
  have hF0 : Fresh W (W.alloc (.cells #[] 38)) := (Kept.refl _ W).alloc _
  obtain ⟨t1, W1, h1, h2, h3⟩ := twin ty8 22 (W.alloc (.cells #[] 38)) W.heap.size _ [] (own_empty W _ (Nat.le_refl _) _) hF0.size av A _ ((hA.fresh hF).fresh hF0) (by have := hA.len; simpa using this)
  simp only [List.length_nil, Nat.zero_add, List.nil_append] at h2
  have hR := rk_of_own h2 hA.len hA.all
  obtain ⟨ta, tc, rfl, _⟩ := hR.shape
  exact ⟨ta, tc, W1, h1, hF0.grown h3 (fun k hk e => by simp [Value.ownBlock] at e; omega), hR⟩
/-- What is written to: the first row that came out, and the first list of rows. -/
def Wr (a b c d : Nat) (k : Nat) : Prop := (a ≤ k ∧ k < b) ∨ (c ≤ k ∧ k < d)

set_option maxHeartbeats 40000000 in
set_option maxRecDepth 100000 in
theorem walk (wv xv : Value) (zs : List Int) (X : List (List Int)) (c i s : Int) (w : World) (hw : Rk .i8 (fun b => b < w.heap.size) w wv zs) (hx : LL .i8 (fun b => b < w.heap.size) w xv X) (hc : I64 c) (hi : I64 i) (hs : I64 s) :
    Calls Try.prog 3 #[.agg #[wv, zV c, xv], zV i, zV s] w fun e w' => e = .returned (.bool true) ∧ Fresh w w' := by
  have HAW : Hid (∀ W : World, _) := fun (W : World) => awake_any W
  obtain ⟨W0, hW0⟩ : ∃ W0, W0 = w.alloc (.cells #[wv, zV c, xv] 25) := ⟨_, rfl⟩
  have HF0 : Hid (Fresh w W0) := by show Fresh _ _; rw [hW0]; exact (Kept.refl _ w).alloc _
  have p1 : W0.heap[w.heap.size]? = some (.cells #[wv, zV c, xv] 25 (0, 0)) := by rw [hW0]; exact heap_alloc_new w _
  have HP0 : Hid (W0.heap[w.heap.size]? = some (.cells #[wv, zV c, xv] 25 (0, 0))) := p1
  have HP : Hid (∀ W, Fresh W0 W → W.cell? ⟨w.heap.size, 0, none⟩ = some wv ∧ W.cell? ⟨w.heap.size, 1, none⟩ = some (zV c) ∧ W.cell? ⟨w.heap.size, 2, none⟩ = some xv ∧ w.heap.size < W.heap.size) := fun W hF => by
    have q1 := hF.at p1 (fun e => e)
    exact ⟨by rw [Lib.cell_of_heap q1]; rfl, by rw [Lib.cell_of_heap q1]; rfl, by rw [Lib.cell_of_heap q1]; rfl, lt_of_heap q1⟩
  have HR : Hid (∀ W, Fresh W0 W → Rk .i8 (fun b => b < w.heap.size) W wv zs ∧ LL .i8 (fun b => b < w.heap.size) W xv X) := fun W hF => by
    have := HF0.out.trans hF (fun _ _ e => e)
    exact ⟨hw.fresh this, hx.fresh this⟩
  have HCo : Hid (∀ W, Fresh W0 W → ∃ ta tc W1, (Builtin.append_ #[22, 22] 22 #[.slice (some ⟨W.heap.size, 0, none⟩) 0 0, wv]).run Try.prog (W.alloc (.cells #[] 38)) = .ok (.slice ta zs.length tc) W1 ∧ Fresh W W1 ∧ Rk .i8 (fun b => W.heap.size ≤ b ∧ b < W1.heap.size) W1 (.slice ta zs.length tc) zs) := fun W hF => copy8 w W (HF0.out.trans hF (fun _ _ e => e)) wv zs hw
  have HI : Hid (I64 c ∧ I64 i ∧ I64 s) := ⟨hc, hi, hs⟩
  have HIr : Hid ((rL zs c i).length * kb .i8 ≤ 140737488351232 ∧ (∀ z ∈ rL zs c i, Fit .i8 z) ∧ (rL zs c i).length ≤ 140737488351000) := by
    refine ⟨?_, fun z hz => hw.all z (rL_mem hz), ?_⟩
    · have := rL_len zs c i
      have := hw.many
      simp [kb]; omega
    · unfold rL
      split
      · rename_i h
        unfold rE at h
        split at h
        · contradiction
        · rename_i h2
          obtain ⟨h3, _⟩ := mE_zero (w := zs) (c := c) (by omega)
          unfold part
          rw [List.length_take, List.length_drop]
          omega
      · simp
  have HIb : Hid ((bL zs c X).length * 24 ≤ 140737488351232 ∧ (∀ x ∈ bL zs c X, x.length * kb .i64 ≤ 140737488351232 ∧ ∀ z ∈ x, Fit .i64 z) ∧ ∀ x ∈ bL zs c X, x.length ≤ 1048576) := by
    have h1 : ∀ x : List Int, (∀ z ∈ x, C8 z) → (tL zs c x).length * kb .i64 ≤ 140737488351232 ∧ ∀ z ∈ tL zs c x, Fit .i64 z := fun x h => ⟨by have := tL_len zs x c; simp [kb]; omega, tL_i64 c hw.all h⟩
    have h2 : ∀ x ∈ bL zs c X, ∃ x' ∈ X, x = tL zs c x' := fun x hm => by
      unfold bL at hm
      split at hm
      · obtain ⟨x', hx', rfl⟩ := List.mem_map.1 hm
        exact ⟨x', hx', rfl⟩
      · cases hm
    refine ⟨?_, fun x hm => ?_, fun x hm => ?_⟩
    · have := hx.many
      unfold bL
      split
      · rw [List.length_map]; exact this
      · simp
    · obtain ⟨x', hx', rfl⟩ := h2 x hm
      refine h1 x' ?_
      obtain ⟨q, hq, rfl⟩ := List.getElem_of_mem hx'
      obtain ⟨ao, cap, _, _, hcl, _⟩ := hx
      obtain ⟨b, off, _, _, _, hcell⟩ := hcl (fun e => by rw [e] at hq; simp at hq)
      obtain ⟨u, _, hu⟩ := hcell q hq
      have := hu.all
      rwa [List.getD_eq_getElem?_getD, List.getElem?_eq_getElem hq] at this
    · obtain ⟨x', _, rfl⟩ := h2 x hm
      exact tL_len zs x' c
  obtain ⟨wa, wcp, hwv, _⟩ := hw.shape
  obtain ⟨xa, xcp, hxv, _⟩ := hx.shape
  subst hwv
  subst hxv
  clear hw p1 hc hx hi hs
  go_enter Try.func3, Try.ntmps3
  go_wp2_with fail
  rw [← hW0]
  refine (HAW.out _).mono ?_
  rintro e w1 ⟨rfl, hF1⟩
  obtain ⟨c1, c2, c3, hbl⟩ := HP.out w1 hF1
  obtain ⟨ta, tc, w2, e1, hF2, hRt⟩ := HCo.out w1 hF1
  have HF2 : Hid (Fresh W0 w2) := hF1.trans hF2 (fun _ _ e => e)
  have HRt : Hid (w1.heap.size ≤ w2.heap.size ∧ w.heap.size < w1.heap.size ∧ ∀ W, Fresh w2 W → Rk .i8 (fun b => w1.heap.size ≤ b ∧ b < w2.heap.size) W (.slice ta zs.length tc) zs) := ⟨hF2.size, hbl, fun W hF => hRt.fresh hF⟩
  have H1 : Hid (Unit → _) := fun (_ : Unit) => Row_any _ _ zs c i w2 hRt HI.out.2.1
  obtain ⟨d1, d2, d3, _⟩ := HP.out w2 HF2.out
  clear hW0 HAW HCo hF1 hF2 hRt
  go_wp2_with (at_builtin; refine Lib.wpList_append_run _ rfl _ _ _ _ rfl _ _ rfl rfl _ _ e1 ?_)
  refine (H1.out ()).mono ?_
  rintro e w3 ⟨v3, rfl, ho3, hF3⟩
  have HF3 : Hid (Fresh w2 w3 ∧ w3.ownsRow w2.heap.size 38 1 v3 (rL zs c i).length ((rL zs c i).map (Value.int .i8))) := ⟨hF3, ho3⟩
  obtain ⟨aa, acp, hv3⟩ := ownsRow_shape ho3
  subst hv3
  clear H1 ho3 hF3 c1 c2 c3 d1 d2 d3 e1 hbl
  obtain ⟨d1, d2, d3, _⟩ := HP.out w3 (HF2.out.trans HF3.out.1 (fun _ _ e => e))
  have H2 : Hid (Unit → _) := fun (_ : Unit) => Row_any _ _ zs c i w3 (HRt.out.2.2 w3 HF3.out.1) HI.out.2.1
  go_wp2_with fail
  refine (H2.out ()).mono ?_
  rintro e w4 hG
  obtain ⟨v4, rfl, hR4, hF4⟩ := hG.row HIr.out.1 HIr.out.2.1
  obtain ⟨ba, bcp, hv4, _⟩ := hR4.shape
  subst hv4
  have HF4 : Hid (Fresh w3 w4 ∧ Rk .i8 (fun b => w3.heap.size ≤ b ∧ b < w4.heap.size) w4 (.slice ba (rL zs c i).length bcp) (rL zs c i)) := ⟨hF4, hR4⟩
  clear H2 hG hR4 hF4 d1 d2 d3
  have HW4 : Hid (Fresh W0 w4 ∧ Fresh w2 w4) := ⟨(HF2.out.trans HF3.out.1 (fun _ _ e => e)).trans HF4.out.1 (fun _ _ e => e), HF3.out.1.trans HF4.out.1 (fun _ _ e => e)⟩
  obtain ⟨d1, d2, d3, _⟩ := HP.out w4 HW4.out.1
  have H3 : Hid (Unit → _) := fun (_ : Unit) => refRow_any _ _ zs c i w4 (HR.out w4 HW4.out.1).1 HI.out.2.1
  go_wp2_with fail
  refine (H3.out ()).mono ?_
  rintro e w5 ⟨v5, rfl, hR5, hw5⟩
  have hw5' := hw5.symm
  subst hw5'
  obtain ⟨ra, rcp, hv5, _⟩ := hR5.shape
  subst hv5
  have HR5 : Hid (Rk .i8 (fun b => b < w.heap.size) w4 (.slice ra (rL zs c i).length rcp) (rL zs c i)) := hR5
  have H4 : Hid (Unit → _) := fun (_ : Unit) => Batch_any _ _ _ _ zs X c w4 (HRt.out.2.2 w4 HW4.out.2) (HR.out w4 HW4.out.1).2 HI.out.1
  clear H3 hw5 hR5
  go_wp2_with fail
  refine (H4.out ()).mono ?_
  rintro e w6 ⟨v6, rfl, hO6, hF6⟩
  have HF6 : Hid (Fresh w4 w6 ∧ OL w4.heap.size w6 v6 (bL zs c X)) := ⟨hF6, hO6⟩
  clear H4 hO6 hF6 d1 d2 d3
  have HW6 : Hid (Fresh W0 w6 ∧ Fresh w2 w6) := ⟨HW4.out.1.trans HF6.out.1 (fun _ _ e => e), HW4.out.2.trans HF6.out.1 (fun _ _ e => e)⟩
  obtain ⟨d1, d2, d3, _⟩ := HP.out w6 HW6.out.1
  have H5 : Hid (Unit → _) := fun (_ : Unit) => Batch_any _ _ _ _ zs X c w6 (HRt.out.2.2 w6 HW6.out.2) (HR.out w6 HW6.out.1).2 HI.out.1
  go_wp2_with fail
  refine (H5.out ()).mono ?_
  rintro e w7 ⟨v7, rfl, hO7, hF7⟩
  have HF7 : Hid (Fresh w6 w7 ∧ LL .i64 (fun b => w6.heap.size ≤ b ∧ b < w7.heap.size) w7 v7 (bL zs c X)) := ⟨hF7, hO7.ll HIb.out.1 HIb.out.2.1⟩
  clear H5 hO7 hF7 d1 d2 d3
  have HW7 : Hid (Fresh W0 w7 ∧ Fresh w2 w7) := ⟨HW6.out.1.trans HF7.out.1 (fun _ _ e => e), HW6.out.2.trans HF7.out.1 (fun _ _ e => e)⟩
  obtain ⟨d1, d2, d3, _⟩ := HP.out w7 HW7.out.1
  have H6 : Hid (Unit → _) := fun (_ : Unit) => refBatch_any _ _ _ _ zs X c w7 (HR.out w7 HW7.out.1).1 (HR.out w7 HW7.out.1).2 HI.out.1
  go_wp2_with fail
  refine (H6.out ()).mono ?_
  rintro e w8 ⟨v8, rfl, hL8, hF8⟩
  have HF8 : Hid (Fresh w7 w8 ∧ LL .i64 (fun b => w7.heap.size ≤ b ∧ b < w8.heap.size) w8 v8 (bL zs c X)) := ⟨hF8, hL8⟩
  clear H6 hL8 hF8 d1 d2 d3
  have HS1 : Hid (Unit → _) := fun (_ : Unit) => same8_any _ _ _ _ _ w8 ((rk_of_own HF3.out.2 HIr.out.1 HIr.out.2.1).fresh ((HF4.out.1.trans (HF6.out.1.trans HF7.out.1 (fun _ _ e => e)) (fun _ _ e => e)).trans HF8.out.1 (fun _ _ e => e))) (HR5.out.fresh ((HF6.out.1.trans HF7.out.1 (fun _ _ e => e)).trans HF8.out.1 (fun _ _ e => e)))
  have HS2 : Hid (∀ n, Calls Try.prog 13 #[v6, v8] (w8.drewN n) fun e w' => e = .returned (.bool true) ∧ ∃ m, w' = (w8.drewN n).drewN m) := fun n => rows64_any _ _ _ _ _ _ (((HF6.out.2.ll HIb.out.1 HIb.out.2.1).fresh (HF7.out.1.trans HF8.out.1 (fun _ _ e => e))).fresh (kept_drewN _ _ n)) (HF8.out.2.fresh (kept_drewN _ _ n))
  generalize rE zs c i = E1 at *
  generalize bB zs c X = E2 at *
  obtain ⟨ha6, hl6, m6, hv6⟩ : ∃ a l c, v6 = .slice a l c := by
    rcases HF6.out.2 with ⟨e, _⟩ | ⟨g, us, h1, _⟩
    · exact ⟨_, _, _, e⟩
    · exact ⟨_, _, _, h1⟩
  obtain ⟨ha8, hc8, hv8, _⟩ := HF8.out.2.shape
  obtain ⟨ha7, hc7, hv7, _⟩ := HF7.out.2.shape
  subst hv6
  subst hv7
  subst hv8
  go_wp2_with fail
  refine (HS1.out ()).mono ?_
  rintro e w9 ⟨rfl, n9, hw9⟩
  subst hw9
  clear HS1
  go_wp2_with fail
  refine (HS2.out _).mono ?_
  rintro e w10 ⟨rfl, n10, hw10⟩
  have hF10 : Fresh w8 w10 := by rw [hw10]; exact (kept_drewN _ _ _).drewN _
  have HF10 : Hid (Fresh w8 w10) := hF10
  clear HS2 hw10 hF10
  obtain ⟨na, hna⟩ : ∃ na, (rL zs c i).length = na := ⟨_, rfl⟩
  obtain ⟨L0, hL0⟩ : ∃ L0, L0 = bL zs c X := ⟨_, rfl⟩
  obtain ⟨m, hm⟩ : ∃ m, L0.length = m := ⟨_, rfl⟩
  have hs2 : w.heap.size < w2.heap.size := Nat.lt_of_lt_of_le HRt.out.2.1 HRt.out.1
  have hs3 := HF3.out.1.size
  have hs4 := HF4.out.1.size
  have hs6 := HF6.out.1.size
  have hs7 := HF7.out.1.size
  have hs8 := HF8.out.1.size
  have hs10 := HF10.out.size
  have hF4_10 : Fresh w4 w10 := ((HF6.out.1.trans HF7.out.1 (fun _ _ e => e)).trans HF8.out.1 (fun _ _ e => e)).trans HF10.out (fun _ _ e => e)
  have hF7_10 : Fresh w7 w10 := HF8.out.1.trans HF10.out (fun _ _ e => e)
  have HS : Hid (w.heap.size < w2.heap.size ∧ w2.heap.size ≤ w3.heap.size ∧ w3.heap.size ≤ w4.heap.size ∧ w4.heap.size ≤ w6.heap.size ∧ w6.heap.size ≤ w10.heap.size) := ⟨hs2, hs3, hs4, hs6, by omega⟩
  have HProt : Hid (∀ W, Kept (Wr w2.heap.size w3.heap.size w4.heap.size w6.heap.size) w10 W → Rk .i8 (fun _ => True) W (.slice ba na bcp) (rL zs c i) ∧ Rk .i8 (fun _ => True) W (.slice ra na rcp) (rL zs c i) ∧ LL .i64 (fun _ => True) W (.slice ha7 m hc7) L0 ∧ LL .i64 (fun _ => True) W (.slice ha8 m hc8) L0 ∧ Rk .i8 (fun _ => True) W (.slice ta zs.length tc) zs ∧ Rk .i8 (fun _ => True) W (.slice wa zs.length wcp) zs ∧ W.cell? ⟨w.heap.size, 0, none⟩ = some (.slice wa zs.length wcp) ∧ Fresh w W) := fun W hK => by
    have hF10' : Fresh W0 w10 := HW4.out.1.trans hF4_10 (fun _ _ e => e)
    have hT := HRt.out
    have hbox := hK.at (hF10'.at HP0.out (fun e => e)) (fun e => by rcases e with ⟨e1, _⟩ | ⟨e1, _⟩ <;> omega)
    rw [← hna, ← hm, hL0]
    refine ⟨((HF4.out.2.fresh hF4_10).kept hK (fun b hb e => by rcases e with ⟨_, e1⟩ | ⟨e1, _⟩ <;> omega)).mono (fun _ _ => trivial), ((HR5.out.fresh hF4_10).kept hK (fun b hb e => by rcases e with ⟨e1, _⟩ | ⟨e1, _⟩ <;> omega)).mono (fun _ _ => trivial), ((HF7.out.2.fresh hF7_10).kept hK (fun b hb e => by rcases e with ⟨_, e1⟩ | ⟨_, e1⟩ <;> omega)).mono (fun _ _ => trivial), ((HF8.out.2.fresh HF10.out).kept hK (fun b hb e => by rcases e with ⟨_, e1⟩ | ⟨_, e1⟩ <;> omega)).mono (fun _ _ => trivial), ((hT.2.2 w10 (HW4.out.2.trans hF4_10 (fun _ _ e => e))).kept hK (fun b hb e => by rcases e with ⟨e1, _⟩ | ⟨e1, _⟩ <;> omega)).mono (fun _ _ => trivial), ((HR.out w10 hF10').1.kept hK (fun b hb e => by rcases e with ⟨e1, _⟩ | ⟨e1, _⟩ <;> omega)).mono (fun _ _ => trivial), by rw [Lib.cell_of_heap hbox]; rfl, (HF0.out.trans hF10' (fun _ _ e => e)).trans hK (fun b hb e => by rcases e with ⟨e1, _⟩ | ⟨e1, _⟩ <;> omega)⟩
  have HA0 : Hid (∃ xs, w10.ownsRow w2.heap.size 38 1 (.slice aa na acp) na xs ∧ ∀ b, (Value.slice aa na acp).ownBlock = some b → w2.heap.size ≤ b ∧ b < w3.heap.size) := by
    have ho := HF3.out.2
    rw [hna] at ho
    exact ⟨_, owns_kept ho (HF4.out.1.trans hF4_10 (fun _ _ e => e)) (fun _ _ e => e), fun b hb => ⟨own_ge ho hb, owns_lt ho hb⟩⟩
  have hO6 := HF6.out.2
  rw [← hL0] at hO6
  obtain ⟨gB, us, hb6, hv6, ho6, hrs6, hg6, hbl6⟩ := hO6.parts
  rw [hm] at hv6 ho6 hg6 hbl6
  injection hv6 with q1 q2 q3
  subst q1
  subst q2
  subst q3
  have HL0 : Hid (w10.ownsRow w4.heap.size 40 1 (.slice ha6 m6 m6) m6 us ∧ OwnRs w4.heap.size w10 us L0 gB) := ⟨owns_kept ho6 (HF7.out.1.trans hF7_10 (fun _ _ e => e)) (fun _ _ e => e), hrs6.fresh (HF7.out.1.trans hF7_10 (fun _ _ e => e))⟩
  have HG : Hid ((0 < m6 → ha6 = some ⟨gB, 0, none⟩ ∧ w4.heap.size ≤ gB ∧ gB < w6.heap.size) ∧ (∀ r, r < m6 → ∀ b, (us.getD r (.slice none 0 0)).ownBlock = some b → w4.heap.size ≤ b ∧ b < w6.heap.size) ∧ L0.length = m6) := ⟨hg6, hbl6, hm⟩
  have HGo : Hid (∀ b, (Value.slice ha6 m6 m6).ownBlock = some b → w4.heap.size ≤ b ∧ b < w6.heap.size) := fun b hb => ⟨own_ge ho6 hb, owns_lt ho6 hb⟩
  have HIb2 : Hid ((∀ r, (L0.getD r []).length ≤ 1048576) ∧ m6 * 24 ≤ 140737488351232) := by
    refine ⟨fun r => ?_, by rw [← hm, hL0]; exact HIb.out.1⟩
    rcases Nat.lt_or_ge r L0.length with e | e
    · refine HIb.out.2.2 _ ?_
      rw [List.getD_eq_getElem?_getD, List.getElem?_eq_getElem e, ← hL0]
      exact List.getElem_mem e
    · rw [List.getD_eq_getElem?_getD, List.getElem?_eq_none e]; simp
  have hml : (bL zs c X).length = m6 := by rw [← hL0]; exact hm
  have hnal : na ≤ 140737488351000 := by rw [← hna]; exact HIr.out.2.2
  have hmm : m6 * 24 ≤ 140737488351232 := HIb2.out.2
  rw [hna, hml]
  clear HF2 HF3 HF4 HF6 HF7 HF8 HF10 HW4 HW6 HW7 HRt HR5 HP HP0 HR HF0 HIr HIb hF4_10 hF7_10 hO6 ho6 hrs6 hg6 hbl6 hs2 hs3 hs4 hs6 hs7 hs8 hs10 hna hL0 hm hml
  generalize w2.heap.size = N2 at *
  generalize w3.heap.size = N3 at *
  generalize w4.heap.size = N4 at *
  generalize w6.heap.size = N6 at *
  go_wp2
  go_loopw [115] (fun iv wr => ∃ j : Nat, j ≤ na ∧ iv = zV j ∧ Hid (Kept (Wr N2 N3 N4 N6) w10 wr ∧ (∃ xs, wr.ownsRow N2 38 1 (.slice aa na acp) na xs ∧ ∀ b, (Value.slice aa na acp).ownBlock = some b → N2 ≤ b ∧ b < N3) ∧ wr.ownsRow N4 40 1 (.slice ha6 m6 m6) m6 us ∧ OwnRs N4 wr us L0 gB)) (fun iv _ => na - (RowKit.intOf iv).toNat)
  case atStart => exact ⟨0, Nat.zero_le _, rfl, ⟨Kept.refl _ _, HA0.out, HL0.out.1, HL0.out.2⟩⟩
  case round =>
    obtain ⟨j, hj, rfl, HA⟩ := hrel
    clear HL0 HA0
    by_cases hlt : j < na
    · obtain ⟨xs, hxo, hxb⟩ := HA.out.2.1
      obtain ⟨g, rfl⟩ : ∃ g, aa = some ⟨g, 0, none⟩ := by
        rcases hxo.2 with ⟨e, e2⟩ | ⟨g, cap, cur, hv, _⟩
        · omega
        · injection hv with q1; exact ⟨g, q1⟩
      obtain ⟨hg1, hg2⟩ := hxb g (by simp [Value.ownBlock])
      have f1 := own_frozen hxo j
      have hxl : xs.length = na := by have := hxo.1; simpa using this
      have g1 : wr.cell? ⟨g, j, none⟩ = some (xs.getD j (.slice none 0 0)) := by
        rw [hxo.cellAt j (by omega), List.getD_eq_getElem?_getD, List.getElem?_eq_getElem (by omega)]; rfl
      have hlt' : (j : Int) < (na : Int) := by omega
      have HX : Hid (Kept (Wr N2 N3 N4 N6) w10 (wr.setCell ⟨g, j, none⟩ (.int .i8 99)) ∧ (∃ xs, (wr.setCell ⟨g, j, none⟩ (.int .i8 99)).ownsRow N2 38 1 (.slice (some ⟨g, 0, none⟩) na acp) na xs ∧ ∀ b, (Value.slice (some ⟨g, 0, none⟩) na acp).ownBlock = some b → N2 ≤ b ∧ b < N3) ∧ (wr.setCell ⟨g, j, none⟩ (.int .i8 99)).ownsRow N4 40 1 (.slice ha6 m6 m6) m6 us ∧ OwnRs N4 (wr.setCell ⟨g, j, none⟩ (.int .i8 99)) us L0 gB) := by
        have hk : Kept (fun b => b = g) wr (wr.setCell ⟨g, j, none⟩ (.int .i8 99)) := (Kept.refl (fun b => b = g) wr).setCell (p := ⟨g, j, none⟩) (fun _ => rfl) _
        have hN := HS.out
        refine ⟨HA.out.1.setCell (fun _ => .inl ⟨hg1, hg2⟩) _, ⟨_, own_setB hxo, hxb⟩, owns_kept HA.out.2.2.1 hk (fun b hb e => by have := own_ge HA.out.2.2.1 hb; omega), HA.out.2.2.2.keptT hk (fun r hr b hb e => by have := HG.out.2.1 r (by rw [← HG.out.2.2]; exact hr) b hb; omega)⟩
      clear hxo HA hxb hxl hg1 hg2
      generalize xs.getD j (.slice none 0 0) = xj at *
      go_wp2
      go_roundw
      case rel => exact ⟨j + 1, hlt, by go_num, HX.out⟩
      case measure => simp [RowKit.intOf]; omega
    · obtain rfl : j = na := by omega
      clear hlt hj
      obtain ⟨F, hFd⟩ : ∃ F : Nat → List Int, F = fun r => List.replicate (L0.getD r []).length (1000 + (r : Int)) := ⟨_, rfl⟩
      obtain ⟨G, hGd⟩ : ∃ G : Nat → List Int, G = fun r => F r ++ List.replicate 9 (2000 + (r : Int)) := ⟨_, rfl⟩
      have HFd : Hid (∀ r, F r = List.replicate (L0.getD r []).length (1000 + (r : Int))) := fun r => by rw [hFd]
      have HGd : Hid (∀ r, G r = F r ++ List.replicate 9 (2000 + (r : Int))) := fun r => by rw [hGd]
      have HB0 : Hid (Kept (Wr N2 N3 N4 N6) w10 wr ∧ (∃ xs, wr.ownsRow N2 38 1 (.slice aa j acp) j xs ∧ ∀ b, (Value.slice aa j acp).ownBlock = some b → N2 ≤ b ∧ b < N3) ∧ wr.ownsRow N4 40 1 (.slice ha6 m6 m6) m6 us ∧ OwnRs N4 wr us (upTo m6 0 F (fun r => L0.getD r [])) gB) := by
        refine ⟨HA.out.1, HA.out.2.1, HA.out.2.2.1, ?_⟩
        have : upTo m6 0 F (fun r => L0.getD r []) = L0 := by rw [← HG.out.2.2]; exact upTo_self L0 F
        rw [this]
        exact HA.out.2.2.2
      clear HA hFd hGd
      go_wp2
      go_loopw [124] (fun iv wx => ∃ k : Nat, k ≤ m6 ∧ iv = zV k ∧ Hid (Kept (Wr N2 N3 N4 N6) w10 wx ∧ (∃ xs, wx.ownsRow N2 38 1 (.slice aa j acp) j xs ∧ ∀ b, (Value.slice aa j acp).ownBlock = some b → N2 ≤ b ∧ b < N3) ∧ wx.ownsRow N4 40 1 (.slice ha6 m6 m6) m6 us ∧ OwnRs N4 wx us (upTo m6 k F (fun r => L0.getD r [])) gB)) (fun iv _ => m6 - (RowKit.intOf iv).toNat)
      case atStart => exact ⟨0, Nat.zero_le _, rfl, HB0.out⟩
      case round =>
        obtain ⟨k, hk, rfl, HA⟩ := hrel
        clear HB0
        by_cases hlt : k < m6
        · obtain ⟨rfl, hgb1, hgb2⟩ := HG.out.1 (by omega)
          obtain ⟨g', c', hu, ho, hne⟩ := HA.out.2.2.2.2.1 k (by rw [upTo_length]; exact hlt)
          have hbk := HG.out.2.1 k hlt g' (by rw [hu]; simp [Value.ownBlock])
          rw [upTo_get _ _ hlt, if_neg (Nat.lt_irrefl k)] at hu ho
          have hul : us.length = m6 := by have := HA.out.2.2.1.1; simpa using this
          have c1 : wr.cell? ⟨gB, k, none⟩ = some (.slice (some ⟨g', 0, none⟩) (L0.getD k []).length c') := by
            rw [HA.out.2.2.1.cellAt k (by omega), ← hu, List.getD_eq_getElem?_getD, List.getElem?_eq_getElem (by omega)]; rfl
          have hlt' : (k : Int) < (m6 : Int) := by omega
          obtain ⟨x, hx⟩ : ∃ x, x = L0.getD k [] := ⟨_, rfl⟩
          obtain ⟨lx, hlx⟩ : ∃ lx, lx = x.length := ⟨_, rfl⟩
          have hlxm : lx ≤ 1048576 := by rw [hlx, hx]; exact HIb2.out.1 k
          have HX0 : Hid (us.getD k (.slice none 0 0) = .slice (some ⟨g', 0, none⟩) lx c' ∧ lx = x.length ∧ x = L0.getD k [] ∧ g' ≠ gB ∧ N4 ≤ g' ∧ g' < N6) := ⟨by rw [hlx, hx]; exact hu, hlx, hx, hne, hbk.1, hbk.2⟩
          have HC0 : Hid (Kept (Wr N2 N3 N4 N6) w10 wr ∧ (∃ xs, wr.ownsRow N2 38 1 (.slice aa j acp) j xs ∧ ∀ b, (Value.slice aa j acp).ownBlock = some b → N2 ≤ b ∧ b < N3) ∧ wr.ownsRow N4 40 1 (.slice (some ⟨gB, 0, none⟩) m6 m6) m6 us ∧ OwnRs N4 wr us ((upTo m6 k F (fun r => L0.getD r [])).set k (stored x 0 (1000 + (k : Int)))) gB) := by
            refine ⟨HA.out.1, HA.out.2.1, HA.out.2.2.1, ?_⟩
            rw [stored_zero, hx, upTo_same F (fun r => L0.getD r []) hlt]
            exact HA.out.2.2.2
          rw [← hx, ← hlx] at c1
          clear HA hu ho hne hbk hul hx hlx
          go_wp2
          clear c1
          go_loopw [131] (fun iv wy => ∃ n : Nat, n ≤ lx ∧ iv = zV n ∧ Hid (Kept (Wr N2 N3 N4 N6) w10 wy ∧ (∃ xs, wy.ownsRow N2 38 1 (.slice aa j acp) j xs ∧ ∀ b, (Value.slice aa j acp).ownBlock = some b → N2 ≤ b ∧ b < N3) ∧ wy.ownsRow N4 40 1 (.slice (some ⟨gB, 0, none⟩) m6 m6) m6 us ∧ OwnRs N4 wy us ((upTo m6 k F (fun r => L0.getD r [])).set k (stored x n (1000 + (k : Int)))) gB)) (fun iv _ => lx - (RowKit.intOf iv).toNat)
          case atStart => exact ⟨0, Nat.zero_le _, rfl, HC0.out⟩
          case round =>
            obtain ⟨n, hn, rfl, HD⟩ := hrel
            clear HC0
            by_cases hnl : n < lx
            · have hkl : k < ((upTo m6 k F (fun r => L0.getD r [])).set k (stored x n (1000 + (k : Int)))).length := by rw [List.length_set, upTo_length]; exact hlt
              have hgd : ((upTo m6 k F (fun r => L0.getD r [])).set k (stored x n (1000 + (k : Int)))).getD k [] = stored x n (1000 + (k : Int)) := getDL_set_eq (by rw [upTo_length]; exact hlt)
              have hsl : (stored x n (1000 + (k : Int))).length = lx := by rw [stored_length _ (by rw [← HX0.out.2.1]; omega), HX0.out.2.1]
              obtain ⟨g2, c2, hu2, ho2, _⟩ := HD.out.2.2.2.2.1 k hkl
              rw [hgd, hsl] at ho2 hu2
              rw [HX0.out.1] at ho2 hu2
              have f1 := own_frozen ho2 n
              have g1 := own_get ho2 n hnl
              have hnl' : (n : Int) < (lx : Int) := by omega
              have HX : Hid (Kept (Wr N2 N3 N4 N6) w10 (wr.setCell ⟨g', n, none⟩ (zV (1000 + (k : Int)))) ∧ (∃ xs, (wr.setCell ⟨g', n, none⟩ (zV (1000 + (k : Int)))).ownsRow N2 38 1 (.slice aa j acp) j xs ∧ ∀ b, (Value.slice aa j acp).ownBlock = some b → N2 ≤ b ∧ b < N3) ∧ (wr.setCell ⟨g', n, none⟩ (zV (1000 + (k : Int)))).ownsRow N4 40 1 (.slice (some ⟨gB, 0, none⟩) m6 m6) m6 us ∧ OwnRs N4 (wr.setCell ⟨g', n, none⟩ (zV (1000 + (k : Int)))) us ((upTo m6 k F (fun r => L0.getD r [])).set k (stored x (n + 1) (1000 + (k : Int)))) gB) := by
                have hx0 := HX0.out
                have hN := HS.out
                have hk2 : Kept (fun b => b = g') wr (wr.setCell ⟨g', n, none⟩ (zV (1000 + (k : Int)))) := (Kept.refl (fun b => b = g') wr).setCell (p := ⟨g', n, none⟩) (fun _ => rfl) _
                refine ⟨HD.out.1.setCell (fun _ => .inr ⟨hx0.2.2.2.2.1, hx0.2.2.2.2.2⟩) _, ?_, ownsRow_setCell_other HD.out.2.2.1 (by simp [Value.ownBlock]; omega) _, ?_⟩
                · obtain ⟨xs, o, hb⟩ := HD.out.2.1
                  exact ⟨xs, owns_kept o hk2 (fun b hb' e => by have := hb b hb'; omega), hb⟩
                · have := HD.out.2.2.2.put hkl (by rw [hgd, hsl]; exact hx0.1) n (1000 + (k : Int))
                  rw [hgd, stored_set _ (by rw [← hx0.2.1]; exact hnl), List.set_set] at this
                  exact this
              clear HD ho2 hu2 hgd hsl hkl
              generalize (stored x n (1000 + (k : Int))).getD n 0 = old at *
              go_wp2
              go_roundw
              case rel => exact ⟨n + 1, hnl, by go_num, HX.out⟩
              case measure => simp [RowKit.intOf]; omega
            · obtain rfl : n = lx := by omega
              have HE : Hid (Kept (Wr N2 N3 N4 N6) w10 wr ∧ (∃ xs, wr.ownsRow N2 38 1 (.slice aa j acp) j xs ∧ ∀ b, (Value.slice aa j acp).ownBlock = some b → N2 ≤ b ∧ b < N3) ∧ wr.ownsRow N4 40 1 (.slice (some ⟨gB, 0, none⟩) m6 m6) m6 us ∧ OwnRs N4 wr us (upTo m6 (k + 1) F (fun r => L0.getD r [])) gB) := by
                refine ⟨HD.out.1, HD.out.2.1, HD.out.2.2.1, ?_⟩
                have := HD.out.2.2.2
                rw [HX0.out.2.1, stored_all, HX0.out.2.2.1, ← HFd.out k, upTo_set F _ hlt] at this
                exact this
              clear HD
              go_wp2
              go_roundw
              case rel => exact ⟨k + 1, hlt, by go_num, HE.out⟩
              case measure => simp [RowKit.intOf]; omega
        · obtain rfl : k = m6 := by omega
          clear hlt hk
          have HB1 : Hid (Kept (Wr N2 N3 N4 N6) w10 wr ∧ (∃ xs, wr.ownsRow N2 38 1 (.slice aa j acp) (j + 0) xs ∧ ∀ b, (Value.slice aa j acp).ownBlock = some b → (N2 ≤ b ∧ b < N3) ∨ w10.heap.size ≤ b) ∧ wr.ownsRow N4 40 1 (.slice ha6 k k) k us ∧ OwnRs N4 wr us (upTo k 0 G F) gB) := by
            obtain ⟨xs, o, hb⟩ := HA.out.2.1
            refine ⟨HA.out.1, ⟨xs, o, fun b hb' => .inl (hb b hb')⟩, HA.out.2.2.1, ?_⟩
            have := HA.out.2.2.2
            rw [upTo_end k F _ G] at this
            exact this
          clear HA
          go_wp2
          go_loopw [24, 142] (fun gv iv wx => ∃ (q : Nat) (gv' : Value), q ≤ 9 ∧ iv = zV q ∧ gv = gv' ∧ Hid (Kept (Wr N2 N3 N4 N6) w10 wx ∧ (∃ xs, wx.ownsRow N2 38 1 gv' (j + q) xs ∧ ∀ b, gv'.ownBlock = some b → (N2 ≤ b ∧ b < N3) ∨ w10.heap.size ≤ b) ∧ wx.ownsRow N4 40 1 (.slice ha6 k k) k us ∧ OwnRs N4 wx us (upTo k 0 G F) gB)) (fun _ iv _ => 9 - (RowKit.intOf iv).toNat)
          case atStart => exact ⟨0, _, Nat.zero_le _, rfl, rfl, HB1.out⟩
          case round =>
            obtain ⟨q, gv', hq, rfl, rfl, HA⟩ := hrel
            clear HB1
            obtain ⟨xs0, o0, _⟩ := HA.out.2.1
            obtain ⟨oo, oc, hov⟩ := ownsRow_shape o0
            subst hov
            clear o0
            by_cases hq9 : q < 9
            · obtain ⟨xs, hxo, hxb⟩ := HA.out.2.1
              obtain ⟨g2, c2, Wn, hra, hoa, hka, hga⟩ := pushG Try.underlying22 ty8.info rfl (by simp [kb]) wr N2 (.slice oo (j + q) oc) (j + q) xs (.int .i8 77) rfl hxo (by simp [kb]; omega) (by have := HA.out.1.size; have := HS.out; omega)
              have hq9' : (q : Int) < 9 := by omega
              have HX : Hid (Kept (Wr N2 N3 N4 N6) w10 Wn ∧ (∃ xs, Wn.ownsRow N2 38 1 (.slice (some ⟨g2, 0, none⟩) (j + q + 1) c2) (j + (q + 1)) xs ∧ ∀ b, (Value.slice (some ⟨g2, 0, none⟩) (j + q + 1) c2).ownBlock = some b → (N2 ≤ b ∧ b < N3) ∨ w10.heap.size ≤ b) ∧ Wn.ownsRow N4 40 1 (.slice ha6 k k) k us ∧ OwnRs N4 Wn us (upTo k 0 G F) gB) := by
                have hN := HS.out
                have hsz := HA.out.1.size
                refine ⟨HA.out.1.trans hka (fun b hb e => ?_), ⟨_, hoa, fun b hb => ?_⟩, ?_, ?_⟩
                · rcases hxb b e with e1 | e1
                  · exact .inl e1
                  · omega
                · simp [Value.ownBlock] at hb
                  subst hb
                  rcases hga with e | e
                  · exact hxb _ e
                  · right; omega
                · refine owns_kept HA.out.2.2.1 hka (fun b hb e => ?_)
                  have h1 := own_ge HA.out.2.2.1 hb
                  rcases hxb b e with e1 | e1
                  · omega
                  · have := HGo.out b hb
                    omega
                · exact HA.out.2.2.2.keptT hka (fun r hr b hb e => by
                    have h1 := HG.out.2.1 r (by rw [upTo_length] at hr; exact hr) b hb
                    rcases hxb b e with e1 | e1 <;> omega)
              clear HA hxo hxb hoa hka hga
              go_wp2_with (at_builtin; refine Lib.wpList_append_run _ rfl _ _ _ _ rfl _ _ rfl rfl _ _ hra ?_)
              go_roundw
              case rel => exact ⟨q + 1, _, hq9, by go_num, rfl, HX.out⟩
              case measure => simp [RowKit.intOf]; omega
            · obtain rfl : q = 9 := by omega
              have HB2 : Hid (Kept (Wr N2 N3 N4 N6) w10 wr ∧ wr.ownsRow N4 40 1 (.slice ha6 k k) k us ∧ OwnRs N4 wr us (upTo k 0 G F) gB ∧ ∀ r, r < k → ∀ b, (us.getD r (.slice none 0 0)).ownBlock = some b → b < N6 ∨ w10.heap.size ≤ b) := ⟨HA.out.1, HA.out.2.2.1, HA.out.2.2.2, fun r hr b hb => .inl (HG.out.2.1 r hr b hb).2⟩
              clear HA hq hq9
              go_wp2
              go_loopw [150] (fun iv wx => ∃ (p : Nat) (us' : List Value), p ≤ k ∧ iv = zV p ∧ Hid (Kept (Wr N2 N3 N4 N6) w10 wx ∧ wx.ownsRow N4 40 1 (.slice ha6 k k) k us' ∧ OwnRs N4 wx us' (upTo k p G F) gB ∧ ∀ r, r < k → ∀ b, (us'.getD r (.slice none 0 0)).ownBlock = some b → b < N6 ∨ w10.heap.size ≤ b)) (fun iv _ => k - (RowKit.intOf iv).toNat)
              case atStart => exact ⟨0, us, Nat.zero_le _, rfl, HB2.out⟩
              case round =>
                obtain ⟨p, us', hp, rfl, HA⟩ := hrel
                clear HB2
                by_cases hlt : p < k
                · obtain ⟨rfl, hgb1, hgb2⟩ := HG.out.1 (by omega)
                  obtain ⟨g', c', hu, ho, hne⟩ := HA.out.2.2.1.2.1 p (by rw [upTo_length]; exact hlt)
                  have hbk := HA.out.2.2.2 p hlt g' (by rw [hu]; simp [Value.ownBlock])
                  have hap := HA.out.2.2.1.apart (j := p) (g := g') (c := c') (by rw [upTo_length]; exact hlt) hu
                  rw [upTo_length] at hap
                  rw [upTo_get _ _ hlt, if_neg (Nat.lt_irrefl p)] at hu ho
                  have hul : us'.length = k := by have := HA.out.2.1.1; simpa using this
                  obtain ⟨lx, hlx⟩ : ∃ lx, lx = (F p).length := ⟨_, rfl⟩
                  have hlxm : lx ≤ 1048576 := by rw [hlx, HFd.out, List.length_replicate]; exact HIb2.out.1 p
                  have c1 : wr.cell? ⟨gB, p, none⟩ = some (.slice (some ⟨g', 0, none⟩) lx c') := by
                    rw [HA.out.2.1.cellAt p (by omega), hlx, ← hu, List.getD_eq_getElem?_getD, List.getElem?_eq_getElem (by omega)]; rfl
                  have hlt' : (p : Int) < (k : Int) := by omega
                  have HC0 : Hid (Kept (Wr N2 N3 N4 N6) w10 wr ∧ wr.ownsRow N4 40 1 (.slice (some ⟨gB, 0, none⟩) k k) k us' ∧ OwnX N4 wr us' (upTo k p G F) gB p ∧ wr.ownsRow N4 2 1 (.slice (some ⟨g', 0, none⟩) (lx + 0) c') (lx + 0) ((F p ++ List.replicate 0 (2000 + (p : Int))).map zV) ∧ Apart us' k g' p ∧ g' ≠ gB ∧ (g' < N6 ∨ w10.heap.size ≤ g')) := by
                    refine ⟨HA.out.1, HA.out.2.1, HA.out.2.2.1.hole p, ?_, hap, hne, hbk⟩
                    rw [hu, ← hlx] at ho
                    simpa using ho
                  have HUs : Hid (∀ r, r < k → ∀ b, (us'.getD r (.slice none 0 0)).ownBlock = some b → b < N6 ∨ w10.heap.size ≤ b) := HA.out.2.2.2
                  have HLx : Hid (lx = (F p).length ∧ us'.length = k) := ⟨hlx, hul⟩
                  clear HA hu ho hne hbk hap hul hlx
                  go_wp2
                  clear c1
                  go_loopw [26, 155] (fun xv iv wy => ∃ q gx cx : Nat, q ≤ 9 ∧ iv = zV q ∧ xv = .slice (some ⟨gx, 0, none⟩) (lx + q) cx ∧ Hid (Kept (Wr N2 N3 N4 N6) w10 wy ∧ wy.ownsRow N4 40 1 (.slice (some ⟨gB, 0, none⟩) k k) k us' ∧ OwnX N4 wy us' (upTo k p G F) gB p ∧ wy.ownsRow N4 2 1 (.slice (some ⟨gx, 0, none⟩) (lx + q) cx) (lx + q) ((F p ++ List.replicate q (2000 + (p : Int))).map zV) ∧ Apart us' k gx p ∧ gx ≠ gB ∧ (gx < N6 ∨ w10.heap.size ≤ gx))) (fun _ iv _ => 9 - (RowKit.intOf iv).toNat)
                  case atStart => exact ⟨0, g', c', Nat.zero_le _, rfl, rfl, HC0.out⟩
                  case round =>
                    obtain ⟨q, gx, cx, hq, rfl, rfl, HD⟩ := hrel
                    clear HC0
                    by_cases hq9 : q < 9
                    · obtain ⟨ga, ca, Wa, hra, hoa, hga, hka⟩ := push ty64 wr N4 gx cx (lx + q) (F p ++ List.replicate q (2000 + (p : Int))) (2000 + (p : Int)) HD.out.2.2.2.1 (by simp [kb]; omega) (by have := HD.out.1.size; have := HS.out; omega)
                      have hq9' : (q : Int) < 9 := by omega
                      have HX : Hid (Kept (Wr N2 N3 N4 N6) w10 Wa ∧ Wa.ownsRow N4 40 1 (.slice (some ⟨gB, 0, none⟩) k k) k us' ∧ OwnX N4 Wa us' (upTo k p G F) gB p ∧ Wa.ownsRow N4 2 1 (.slice (some ⟨ga, 0, none⟩) (lx + q + 1) ca) (lx + (q + 1)) ((F p ++ List.replicate (q + 1) (2000 + (p : Int))).map zV) ∧ Apart us' k ga p ∧ ga ≠ gB ∧ (ga < N6 ∨ w10.heap.size ≤ ga)) := by
                        obtain ⟨d1, d2, d3, d4, d5, d6, d7⟩ := HD.out
                        have hb1 := own_block d4
                        have hb2 := own_block d2
                        have hsz := d1.size
                        have hap : Apart us' (upTo k p G F).length gx p := by rw [upTo_length]; exact d5
                        have hap2 := d3.lt (N := wr.heap.size + 1) (by omega)
                        rw [upTo_length] at hap2
                        refine ⟨d1.trans hka (fun b hb e => ?_), owns_kept d2 hka (fun b hb e => by simp [Value.ownBlock] at hb; omega), d3.kept hka hap, ?_, ?_, ?_, ?_⟩
                        · subst e
                          rcases d7 with e1 | e1
                          · exact .inr ⟨hb1.1, e1⟩
                          · omega
                        · rw [List.replicate_succ', ← List.append_assoc]
                          exact hoa
                        · rcases hga with e | e
                          · rw [e]; exact d5
                          · rw [e]; exact hap2
                        · rcases hga with e | e
                          · rw [e]; exact d6
                          · omega
                        · rcases hga with e | e
                          · rw [e]; exact d7
                          · right; omega
                      clear HD hoa hga hka
                      go_wp2_with (at_builtin; refine Lib.wpList_append_run _ rfl _ _ _ _ rfl _ _ rfl rfl _ _ hra ?_)
                      go_roundw
                      case rel => exact ⟨q + 1, ga, ca, hq9, by go_num, rfl, HX.out⟩
                      case measure => simp [RowKit.intOf]; omega
                    · obtain rfl : q = 9 := by omega
                      have f1 := own_frozen HD.out.2.1 p
                      have c1 : wr.cell? ⟨gB, p, none⟩ = some (us'.getD p (.slice none 0 0)) := by
                        rw [HD.out.2.1.cellAt p (by omega), List.getD_eq_getElem?_getD, List.getElem?_eq_getElem (by rw [HLx.out.2]; exact hlt)]; rfl
                      have HX : Hid (Kept (Wr N2 N3 N4 N6) w10 (wr.setCell ⟨gB, p, none⟩ (.slice (some ⟨gx, 0, none⟩) (lx + 9) cx)) ∧ (wr.setCell ⟨gB, p, none⟩ (.slice (some ⟨gx, 0, none⟩) (lx + 9) cx)).ownsRow N4 40 1 (.slice (some ⟨gB, 0, none⟩) k k) k (us'.set p (.slice (some ⟨gx, 0, none⟩) (lx + 9) cx)) ∧ OwnRs N4 (wr.setCell ⟨gB, p, none⟩ (.slice (some ⟨gx, 0, none⟩) (lx + 9) cx)) (us'.set p (.slice (some ⟨gx, 0, none⟩) (lx + 9) cx)) (upTo k (p + 1) G F) gB ∧ ∀ r, r < k → ∀ b, ((us'.set p (.slice (some ⟨gx, 0, none⟩) (lx + 9) cx)).getD r (.slice none 0 0)).ownBlock = some b → b < N6 ∨ w10.heap.size ≤ b) := by
                        obtain ⟨d1, d2, d3, d4, d5, d6, d7⟩ := HD.out
                        have hGl : (G p).length = lx + 9 := by rw [HGd.out, List.length_append, List.length_replicate, HLx.out.1]
                        have hap : Apart us' (upTo k p G F).length gx p := by rw [upTo_length]; exact d5
                        rw [← HGd.out p, ← hGl] at d4
                        have hbk := d3.back (by rw [upTo_length]; exact hlt) d4 d6 hap p
                        rw [upTo_set G F hlt, hGl] at hbk
                        refine ⟨d1.setCell (fun _ => .inr ⟨hgb1, hgb2⟩) _, own_setB d2, hbk, fun r hr b hb => ?_⟩
                        by_cases e : r = p
                        · subst e
                          rw [getD_set_eq (by rw [HLx.out.2]; exact hr)] at hb
                          simp [Value.ownBlock] at hb
                          rw [← hb]; exact d7
                        · rw [getD_set_ne e] at hb
                          exact HUs.out r hr b hb
                      clear HD HUs HLx
                      generalize us'.getD p (.slice none 0 0) = old at *
                      go_wp2
                      go_roundw
                      case rel => exact ⟨_, _, _, _, _, _, _, _, _, _, _, _, _, _, _, _, _, _, _, _, ⟨p + 1, us'.set p (.slice (some ⟨gx, 0, none⟩) (lx + 9) cx), hlt, by go_num, HX.out⟩, rfl⟩
                      case measure => simp [RowKit.intOf]; omega
                · obtain rfl : p = k := by omega
                  have HZ : Hid (Kept (Wr N2 N3 N4 N6) w10 wr ∧ wr.ownsRow N4 40 1 (.slice ha6 p p) p us' ∧ OwnRs N4 wr us' (upTo p 0 F G) gB) := ⟨HA.out.1, HA.out.2.1, by have := HA.out.2.2.1; rw [upTo_end p G F F] at this; exact this⟩
                  clear HA hlt hp
                  obtain ⟨wz, hwz⟩ : ∃ wz, wz = wr := ⟨_, rfl⟩
                  rw [← hwz] at HZ ⊢
                  clear hwz
                  go_wp2
                  go_loopw [170] (fun iv wx => ∃ t : Nat, t ≤ p ∧ iv = zV t ∧ wx = wz) (fun iv _ => p - (RowKit.intOf iv).toNat)
                  case atStart => exact ⟨0, Nat.zero_le _, rfl, rfl⟩
                  case round =>
                    obtain ⟨t, ht, rfl, hwx⟩ := hrel
                    have hwx' := hwx.symm
                    subst hwx'
                    by_cases hlt : t < p
                    · obtain ⟨rfl, hgb1, hgb2⟩ := HG.out.1 (by omega)
                      obtain ⟨g', c', hu, ho, hne⟩ := HZ.out.2.2.2.1 t (by rw [upTo_length]; exact hlt)
                      rw [upTo_get _ _ hlt, if_neg (Nat.not_lt_zero t)] at hu ho
                      have hul : us'.length = p := by have := HZ.out.2.1.1; simpa using this
                      obtain ⟨lx, hlx⟩ : ∃ lx, lx = (F t).length := ⟨_, rfl⟩
                      have hlxm : lx ≤ 1048576 := by rw [hlx, HFd.out, List.length_replicate]; exact HIb2.out.1 t
                      have hGl : (G t).length = lx + 9 := by rw [HGd.out, List.length_append, List.length_replicate, hlx]
                      have c1 : wz.cell? ⟨gB, t, none⟩ = some (.slice (some ⟨g', 0, none⟩) (lx + 9) c') := by
                        rw [HZ.out.2.1.cellAt t (by omega), ← hGl, ← hu, List.getD_eq_getElem?_getD, List.getElem?_eq_getElem (by omega)]; rfl
                      have hlt' : (t : Int) < (p : Int) := by omega
                      have HC0 : Hid (∀ n, n < lx + 9 → wz.cell? ⟨g', n, none⟩ = some (zV (if n < lx then 1000 + (t : Int) else 2000 + (t : Int)))) := fun n hn => by
                        rw [hu, hGl] at ho
                        rw [own_get ho n hn, HGd.out, List.getD_eq_getElem?_getD]
                        by_cases e : n < lx
                        · rw [if_pos e, List.getElem?_append_left (by omega), HFd.out, List.getElem?_replicate, if_pos (by have := HFd.out t; rw [this, List.length_replicate] at hlx; omega)]
                          rfl
                        · rw [if_neg e, List.getElem?_append_right (by omega), List.getElem?_replicate, if_pos (by omega)]
                          rfl
                      clear hu ho hne hul hlx hGl
                      go_wp2
                      clear c1
                      go_loopw [177] (fun iv wx => ∃ n : Nat, n ≤ lx + 9 ∧ iv = zV n ∧ wx = wz) (fun iv _ => lx + 9 - (RowKit.intOf iv).toNat)
                      case atStart => exact ⟨0, Nat.zero_le _, rfl, rfl⟩
                      case round =>
                        obtain ⟨n, hn, rfl, hwx⟩ := hrel
                        have hwx' := hwx.symm
                        subst hwx'
                        by_cases hnl : n < lx + 9
                        · have g1 := HC0.out n hnl
                          have hnl' : (n : Int) < (lx : Int) + 9 := by omega
                          by_cases hn2 : n < lx
                          · rw [if_pos hn2] at g1
                            have hn3 : (n : Int) < (lx : Int) := by omega
                            have hn4 : decide ((lx : Int) ≤ (n : Int)) = false := by simp; omega
                            go_wp2
                            go_roundw
                            case rel => exact ⟨n + 1, hnl, by go_num, trivial⟩
                            case measure => simp [RowKit.intOf]; omega
                          · rw [if_neg hn2] at g1
                            have hn3 : ¬ (n : Int) < (lx : Int) := by omega
                            have hn4 : decide ((n : Int) < (lx : Int)) = false := by simp; omega
                            go_wp2
                            go_roundw
                            case rel => exact ⟨n + 1, hnl, by go_num, trivial⟩
                            case measure => simp [RowKit.intOf]; omega
                        · obtain rfl : n = lx + 9 := by omega
                          go_wp2
                          go_roundw
                          case rel => exact ⟨_, _, _, _, _, _, ⟨t + 1, hlt, by go_num⟩, rfl, rfl, rfl, rfl, rfl, rfl⟩
                          case measure => simp [RowKit.intOf]; omega
                    · obtain rfl : t = p := by omega
                      have HK : Hid (Kept (Wr N2 N3 N4 N6) w10 wz) := HZ.out.1
                      clear HZ hlt ht HG HGo HFd HGd HIb2
                      have H7 : Hid (Unit → _) := fun (_ : Unit) => refRound_any 300 s wz ⟨by omega, by omega⟩
                      go_wp2_with fail
                      refine (H7.out ()).mono ?_
                      rintro e wa' ⟨rfl, da, hwa'⟩
                      have HKa : Hid (Kept (Wr N2 N3 N4 N6) w10 wa') := by show Kept _ _ _; rw [hwa']; exact HK.out.drewN da
                      clear hwa' H7 HK
                      have hR3 : Rk .i64 (fun _ => True) (wa'.alloc (.cells #[zV 300] 2)) (.slice (some ⟨wa'.heap.size, 0, none⟩) 1 1) [300] := by
                        refine (rk_of_own (e := 2) (B := 0) (n := 1) ⟨rfl, .inr ⟨_, 1, _, rfl, Nat.zero_le _, heap_alloc_new wa' _, Nat.le_refl _, by unfold maxLen; omega, rfl, rfl⟩⟩ (by simp [kb]) (by simp [Fit, I64])).mono (fun _ _ => trivial)
                      have hSh := Shrink_any _ _ [300] s _ hR3 HI.out.2.2
                      have H8 : Hid (Unit → _) := fun (_ : Unit) => hSh
                      have HKb : Hid (Kept (Wr N2 N3 N4 N6) w10 (wa'.alloc (.cells #[zV 300] 2))) := HKa.out.alloc _
                      clear hR3 hSh HKa
                      go_wp2_with fail
                      refine (H8.out ()).mono ?_
                      rintro e wb' ⟨v9, rfl, ho9, hF9⟩
                      have HKc : Hid (Kept (Wr N2 N3 N4 N6) w10 wb') := HKb.out.trans hF9 (fun _ _ e => e.elim)
                      obtain ⟨sa, scp, hv9⟩ := ownsRow_shape ho9
                      subst hv9
                      clear H8 HKb hF9
                      by_cases h0 : sE ([300] : List Int).length s 62 = 0
                      · have hl1 : sL [300] s 62 (fun x => clamp (rdQ x s) (-127) 127) = [clamp (rdQ 300 s) (-127) 127] := by unfold sL; rw [if_pos h0]; rfl
                        rw [hl1] at ho9 ⊢
                        rw [h0]
                        simp only [List.length_cons, List.length_nil, Nat.zero_add] at ho9 ⊢
                        obtain ⟨g9, rfl⟩ : ∃ g9, sa = some ⟨g9, 0, none⟩ := by
                          rcases ho9.2 with ⟨_, e2⟩ | ⟨g9, cap9, cur9, hv9, _⟩
                          · omega
                          · injection hv9 with q1; exact ⟨g9, q1⟩
                        have g1 : wb'.cell? ⟨g9, 0, none⟩ = some (.int .i8 (clamp (rdQ 300 s) (-127) 127)) := own_get ho9 0 (by omega)
                        have HN : Hid (∀ m, _) := fun m => refNarrow_any (rdQ 300 s) (wb'.drewN m)
                        clear ho9 hl1 h0
                        generalize clamp (rdQ 300 s) (-127) 127 = Q at *
                        generalize rdQ 300 s = Y at *
                        go_wp2_with fail
                        go_quiet ((go_at_call 16; exact Calls.quiet_of (HN.out _)))
                        have HKd : Hid (Kept (Wr N2 N3 N4 N6) w10 (wb'.drewN nq)) := HKc.out.drewN nq
                        clear HKc HN g1
                        generalize wb'.drewN nq = wd' at *
                        obtain ⟨z1, z2, z3, z4, z5, z6, z7, z8⟩ := HProt.out _ HKd.out
                        have H9 : Hid (Unit → _) := fun (_ : Unit) => same8_any _ _ _ _ _ _ z1 z2
                        clear z1 z2 z3 z4 z5 z6 z8
                        go_wp2_with fail
                        refine (H9.out ()).mono ?_
                        rintro e we' ⟨rfl, ne, hwe⟩
                        have HKe : Hid (Kept (Wr N2 N3 N4 N6) w10 we') := by show Kept _ _ _; rw [hwe]; exact HKd.out.drewN ne
                        clear hwe H9 HKd z7
                        obtain ⟨z1, z2, z3, z4, z5, z6, z7, z8⟩ := HProt.out we' HKe.out
                        have Ha : Hid (Unit → _) := fun (_ : Unit) => rows64_any _ _ _ _ _ we' z3 z4
                        clear z1 z2 z3 z4 z5 z6 z8
                        go_wp2_with fail
                        refine (Ha.out ()).mono ?_
                        rintro e wf' ⟨rfl, nf, hwf⟩
                        have HKf : Hid (Kept (Wr N2 N3 N4 N6) w10 wf') := by show Kept _ _ _; rw [hwf]; exact HKe.out.drewN nf
                        clear hwf Ha HKe z7
                        obtain ⟨z1, z2, z3, z4, z5, z6, z7, z8⟩ := HProt.out wf' HKf.out
                        have Hb : Hid (Unit → _) := fun (_ : Unit) => same8_any _ _ _ _ _ wf' z5 z6
                        have HFf : Hid (Fresh w wf') := z8
                        clear z1 z2 z3 z4 z5 z6 z8
                        go_wp2_with fail
                        refine (Hb.out ()).mono ?_
                        rintro e wg' ⟨rfl, ng, hwg⟩
                        have HFg : Hid (Fresh w wg') := by show Fresh _ _; rw [hwg]; exact HFf.out.drewN ng
                        clear hwg Hb HKf HFf z7
                        go_wp2
                        go_ret
                        exact ⟨by simp, HFg.out⟩
                      · have h0' : (sE ([300] : List Int).length s 62 == 0) = false := beq_false_of_ne h0
                        have h0'' : decide (sE ([300] : List Int).length s 62 = 0) = false := decide_eq_false h0
                        clear ho9
                        generalize sE ([300] : List Int).length s 62 = E9 at *
                        generalize (sL [300] s 62 (fun x => clamp (rdQ x s) (-127) 127)).length = l9 at *
                        generalize rdQ 300 s = Y at *
                        go_wp2_with fail
                        go_quiet (fail)
                        have HKd : Hid (Kept (Wr N2 N3 N4 N6) w10 (wb'.drewN nq)) := HKc.out.drewN nq
                        clear HKc
                        generalize wb'.drewN nq = wd' at *
                        obtain ⟨z1, z2, z3, z4, z5, z6, z7, z8⟩ := HProt.out _ HKd.out
                        have H9 : Hid (Unit → _) := fun (_ : Unit) => same8_any _ _ _ _ _ _ z1 z2
                        clear z1 z2 z3 z4 z5 z6 z8
                        go_wp2_with fail
                        refine (H9.out ()).mono ?_
                        rintro e we' ⟨rfl, ne, hwe⟩
                        have HKe : Hid (Kept (Wr N2 N3 N4 N6) w10 we') := by show Kept _ _ _; rw [hwe]; exact HKd.out.drewN ne
                        clear hwe H9 HKd z7
                        obtain ⟨z1, z2, z3, z4, z5, z6, z7, z8⟩ := HProt.out we' HKe.out
                        have Ha : Hid (Unit → _) := fun (_ : Unit) => rows64_any _ _ _ _ _ we' z3 z4
                        clear z1 z2 z3 z4 z5 z6 z8
                        go_wp2_with fail
                        refine (Ha.out ()).mono ?_
                        rintro e wf' ⟨rfl, nf, hwf⟩
                        have HKf : Hid (Kept (Wr N2 N3 N4 N6) w10 wf') := by show Kept _ _ _; rw [hwf]; exact HKe.out.drewN nf
                        clear hwf Ha HKe z7
                        obtain ⟨z1, z2, z3, z4, z5, z6, z7, z8⟩ := HProt.out wf' HKf.out
                        have Hb : Hid (Unit → _) := fun (_ : Unit) => same8_any _ _ _ _ _ wf' z5 z6
                        have HFf : Hid (Fresh w wf') := z8
                        clear z1 z2 z3 z4 z5 z6 z8
                        go_wp2_with fail
                        refine (Hb.out ()).mono ?_
                        rintro e wg' ⟨rfl, ng, hwg⟩
                        have HFg : Hid (Fresh w wg') := by show Fresh _ _; rw [hwg]; exact HFf.out.drewN ng
                        clear hwg Hb HKf HFf z7
                        go_wp2
                        go_ret
                        exact ⟨by simp, HFg.out⟩

set_option maxRecDepth 100000 in
theorem contract (H : Type) (enc : TypeId × Value → H) (W : World) (base : Nat) (args : Array Value) (ds gs : List (DataW H)) (before : List MemPlace)
    (hval : ∀ (j : Nat) t v, Try.f3.params[j]? = some t → args[j]? = some v → Value.okWide Try.prog W .any base t v)
    (hW : DataW.Whole enc Try.prog Try.f3.params.toList Rows.vecMemorySpec.vars false W args.toList ds gs before) 
    (hsz : (DataW.weightsEach Try.prog (Try.f3.params.toList ++ []) (ds ++ gs)).all (· ≤ reachBytes) = true) (hL : laidMetH Try.prog Rows.vecMemoryRow.laid W) :
    Calls Try.prog 3 args W fun e W' => ∃ v, e = .returned v ∧ Rows.vecMemorySpec.post enc Try.prog Try.f3 false true false false W args v W' := by
  have hW' := hW
  obtain ⟨p, q, hA0, hV, rfl, hfz, hnd⟩ := hW
  have hA : DataW.TrodAll enc Try.prog W 0 (fun _ => true) true Try.f3.params.toList args.toList ds p := hA0
  rw [Try.params3] at hA hval hsz
  obtain ⟨rfl, rfl⟩ := trodVars_none hV
  have _hL := hL
  obtain ⟨v0, v1, v2, d0, d1, d2, p0, p1, p2, rfl, rfl, rfl, h0, h1, h2⟩ := trodAll_three hA
  obtain ⟨x1, rfl, rfl, rfl, w1⟩ := open_int Try.underlying3 (hval 1 3 v1 rfl rfl) h1
  obtain ⟨x2, rfl, rfl, rfl, w2⟩ := open_int Try.underlying3 (hval 2 3 v2 rfl rfl) h2
  obtain ⟨wv, xv, c, zs, L, rfl, hc, hz, hx⟩ := matrix_of (hval 0 25 v0 rfl rfl) h0 hsz (j := 0) rfl rfl
  refine (walk wv xv zs L c x1 x2 W hz hx hc (i64_of w1) (i64_of w2)).mono fun e W' ⟨he, hk⟩ => ?_
  subst he
  exact ⟨_, rfl, post_law rfl (by kernel_rfl) (by kernel_rfl) hW' rfl hk⟩

set_option maxRecDepth 100000 in
theorem laid_met (os : Os) : laidMet Try.prog Rows.vecMemoryRow.laid ((layIn (World.holding Try.prog os ⟨#[], #[], []⟩)).forCall (fun _ _ => 0) ⟨#[], #[.agg #[.slice none 0 0, .int .i64 0, .slice none 0 0], .int .i64 0, .int .i64 0], []⟩).memory :=
  laidMet_of_run' 8 (by kernel_rfl) (by kernel_rfl)
set_option maxRecDepth 100000 in
theorem reads (os : Os) {H : Type} (enc : TypeId × Value → H) : ∃ places, DataW.whole enc Try.prog ((layIn (World.holding Try.prog os ⟨#[], #[], []⟩)).forCall (fun _ _ => 0) ⟨#[], #[.agg #[.slice none 0 0, .int .i64 0, .slice none 0 0], .int .i64 0, .int .i64 0], []⟩).memory Try.f3.params.toList Rows.vecMemorySpec.vars false (#[.agg #[.slice none 0 0, .int .i64 0, .slice none 0 0], .int .i64 0, .int .i64 0] : Array Value).toList 8 = some ([.agg [.nil, .lit (.int .i64 0), .nil], .lit (.int .i64 0), .lit (.int .i64 0)], [], places) :=
  ⟨[], by kernel_rfl⟩

set_option maxRecDepth 100000 in
theorem lifted (os : Os) (started : os.Started) (H : Type) (enc : TypeId × Value → H) (F : Stop.Interp) :
    ReturnsInHanded {} Try.checked os 3 .any ((OpenSpec.ofChange Rows.vecMemorySpec).preRow enc Try.prog Try.f3 Rows.vecMemoryRow.domain false Rows.vecMemoryRow.laid) (((OpenSpec.ofChange Rows.vecMemorySpec).at F).post enc Try.prog Try.f3 false true false false) := by
  obtain ⟨places, hx⟩ := reads os enc
  refine returnsInHanded_of_row (C := Try.checked) (s := OpenSpec.ofChange Rows.vecMemorySpec) Try.own started (by kernel_rfl) Try.func3
    (witness_row_at (enc := enc) (C := Try.checked) false (layIn (World.holding Try.prog os ⟨#[], #[], []⟩)) #[.agg #[.slice none 0 0, .int .i64 0, .slice none 0 0], .int .i64 0, .int .i64 0] rfl (by kernel_rfl) (by kernel_rfl) (by kernel_rfl)
      (OpenSpec.preRow_of_cond 8 hx (by kernel_rfl) (fun k hk => by cases hk) (by kernel_rfl) (laid_met os))) ?_
  intro W base args ds gs before hval hW _ hc hsz hL _ _
  exact contract H enc W base args ds gs before hval hW hsz hL

theorem said : Rows.VecMemorySaid :=
  OpenClaim.holds_of_cond 3 Try.f3 rfl rfl rfl rfl rfl rfl rfl ⟨rfl, rfl, rfl, rfl, rfl⟩ rfl rfl rfl rfl rfl (by kernel_rfl) Try.func3 (by kernel_rfl)
    (of_decide_eq_true (by kernel_rfl)) (by unfold Func.isWrapper; first | (rw [if_pos (by decide +kernel)]; kernel_rfl) | (rw [if_neg (by decide +kernel)]; exact ⟨rfl, rfl⟩))
    (fun os started H enc _ F => by rw [OpenClaim.pre_eq_preRow]; exact lifted os started H enc F)


end Go.Proofs.Ytjffiojjjmecgab.Memory8
namespace Go.Proofs.Ytjffiojjjmecgab
theorem vecMemory_holds : Rows.VecMemorySaid := Memory8.said
end Go.Proofs.Ytjffiojjjmecgab
