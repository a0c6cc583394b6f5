/-
  Which tokens may follow: the document's Mask.
-/
import Derived.Test.YtdponkpgokncdaaGwg
import Derived.Test.YtdponkpgokncdaaGuy
import Derived.Test.YtdponkpgokncdaaVoz
import Derived.Test.YtdponkpgokncdaaRgo
namespace Go.Proofs.Ytdponkpgokncdaa
open Go.RowKit Go.Lib Go.Maps

theorem anyB_snoc (l : List Bool) (b : Bool) : anyB (l ++ [b]) = (anyB l || b) := by
  unfold anyB
  simp [List.any_append]
theorem my_none {f : Nat → Nat → Int} {A : List Bool} {T : List (List UInt8)} (i : Nat) : myF f A T (-1) i = false := by
  unfold myF
  split
  · rfl
  · rw [wkF_dead]
    rfl
theorem my_empty {A : List Bool} {E : List Ed} {T : List (List UInt8)} (hA : A.length = 0) (h0 : chE A E = 0) (i : Nat) : myF (mF A E) (nA A) T 0 i = true := by
  have h1 := (mF_empty (E := E) hA).1
  have h2 := (chE_zero h0).2.2.2
  unfold myF
  split
  · rw [h1]; rfl
  · rw [wk_loop hA]
    show (decide ((0 : Int) ≠ -1) && (lvL (mF A E) (nA A)).getD 0 false) = true
    rw [h2]
    rfl
theorem own_any {w : World} {base k : Nat} {e : TypeId} {v : Value} {n : Nat} {xs : List Value} (h : w.ownsRow base e k v n xs) (q : Nat) (hq : v.ownBlock = some q) : base ≤ q := own_ge3 h hq
/-- The rows that come, token by token. -/
def ReI (W : World) (g : Nat → Bool) (v : Value) (j : Nat) (wr : World) : Prop := wr.ownsRow W.heap.size 4 1 v j ((mkB j g).map Value.bool) ∧ Fresh W wr
theorem ReI.start {W X : World} {g : Nat → Bool} (hX : Fresh W X) : ReI W g (.slice (some ⟨X.heap.size, 0, none⟩) 0 0) 0 (X.alloc (.cells #[] 4)) := ⟨own_low (own_empty X _ (Nat.le_refl _) _) hX.size, hX.alloc _⟩
theorem ReI.fresh {W wr X : World} {g : Nat → Bool} {v : Value} {j : Nat} (h : ReI W g v j wr) (hk : Fresh wr X) : ReI W g v j X := ⟨owns_kept h.1 hk (fun _ _ e => e), h.2.trans hk (fun _ _ e => e)⟩
theorem ReI.push {W wr : World} {g : Nat → Bool} {v : Value} {j : Nat} (h : ReI W g v j wr) (hj : j < 100000) (y : Bool) (hy : g j = y) :
    ∃ so c X', (Builtin.append_ #[22, 22] 22 #[v, .slice (some ⟨wr.heap.size, 0, none⟩) 1 1]).run Try.prog (wr.alloc (.cells #[.bool y] 4)) = .ok (.slice so (j + 1) c) X' ∧ ReI W g (.slice so (j + 1) c) (j + 1) X' := by
  have h1 := h.1
  have hl := mkB_len j g
  rw [← hl] at h1
  obtain ⟨v', X', hr, ho, hk⟩ := pushB wr W.heap.size v (mkB j g) y (by rw [hl] at h1 ⊢; exact h1) (by rw [hl]; omega) h.2.size
  rw [hl, ← hy, ← mkB_succ] at ho
  obtain ⟨so, c, rfl⟩ := ownsRow_shape ho
  exact ⟨so, c, X', hr, ho, h.2.trans hk (fun i hi e => by
    have := own_any h.1 i e
    omega)⟩
/-- The last step: where none may follow, the end may. -/
theorem ReI.done {W wr : World} {g : Nat → Bool} {v : Value} {n : Nat} (h : ReI W g v n wr) (ha : anyB (mkB n g) = true) : wr.ownsRow W.heap.size 4 1 v n ((msF (mkB n g)).map Value.bool) := by
  rw [show msF (mkB n g) = mkB n g from if_pos ha]
  exact h.1
theorem ReI.last {W wr : World} {g : Nat → Bool} {b n c : Nat} (h : ReI W g (.slice (some ⟨b, 0, none⟩) n c) n wr) (ha : anyB (mkB n g) = false) : (wr.setCell ⟨b, 0, none⟩ (.bool true)).ownsRow W.heap.size 4 1 (.slice (some ⟨b, 0, none⟩) n c) n ((msF (mkB n g)).map Value.bool) ∧ Fresh W (wr.setCell ⟨b, 0, none⟩ (.bool true)) := by
  rw [show msF (mkB n g) = (mkB n g).set 0 true from if_neg (by rw [ha]; decide)]
  have h2 := own_setB (i := 0) (x := Value.bool true) h.1
  rw [← List.map_set] at h2
  have hb := own_any h.1 b rfl
  exact ⟨h2, h.2.setCell (fun e => by have e' : b < W.heap.size := e; omega) _⟩
theorem ReI.blk {W wr : World} {g : Nat → Bool} {v : Value} {n : Nat} (h : ReI W g v n wr) (hn : 0 < n) : ∃ b c, v = .slice (some ⟨b, 0, none⟩) n c ∧ (∃ x, wr.cell? ⟨b, 0, none⟩ = some x) ∧ wr.frozen? ⟨b, 0, none⟩ = false := by
  have h1 := h.1
  rcases h1.2 with ⟨rfl, h0⟩ | ⟨b, c, cur, rfl, hb, hh, _⟩
  · omega
  · refine ⟨b, c, rfl, ⟨_, (own_cellB h1 hn).trans (List.getElem?_eq_getElem (by simpa [mkB] using hn))⟩, own_frozen h1 0⟩
set_option maxHeartbeats 2000000 in
set_option maxRecDepth 100000 in
theorem rmask_empty {p q : Nat → Prop} (A : List Bool) (E : List Ed) (T : List (List UInt8)) (M : List Mg) (an en tv mv : Value) (w : World) (hA : RbL p w an A) (hE : EdR p w en E) (hT : TxR q w tv T) (hM : MgR q w mv M) (s : Int) (hv0 : vcE T M = 0) (hc0 : chE A E = 0) (hA0 : A.length = 0) (hs : s = 0) :
    Calls Try.prog 21 #[.agg #[an, en], .agg #[tv, mv], zV s] w fun e w' => MkQ A E T M s w e w' := by
  have HB := show Hid _ from box2 w #[an, en] #[tv, mv] 28 55
  have HVC : Hid (∀ X, Fresh w X → Calls Try.prog 27 #[.agg #[tv, mv]] X fun e X' => e = .returned (.tuple #[zV (vcP T M), zV 0]) ∧ Fresh X X') := fun X hX => by
    have := refCheck_any X tv mv T M (hT.fresh hX) (hM.fresh hX)
    rwa [hv0] at this
  have HGC : Hid (∀ X, Fresh w X → Calls Try.prog 11 #[.agg #[an, en]] X fun e X' => e = .returned (.tuple #[zV (chP A E), zV 0]) ∧ Fresh X X') := fun X hX => by
    have := rcheck_any A E an en X (hA.fresh hX) (hE.fresh hX)
    rwa [hc0] at this
  have HRA : Hid (∀ X, Fresh w X → Calls Try.prog 13 #[.agg #[an, en]] X fun e w' => ∃ v, e = .returned v ∧ w'.ownsRow X.heap.size 4 1 v A.length ((drL A E).map Value.bool) ∧ Fresh X w') := fun X hX => ralive_any A E an en X (hA.fresh hX) (hE.fresh hX)
  have hwt := wrT_good (vcE_zero hv0).1
  have HG : Hid (∀ i, myF (mF A E) (nA A) T s i = true) := fun i => by rw [hs]; exact my_empty hA0 hc0 i
  have hDm : DmS A s := .inr ⟨by omega, by have := nA_pos A; omega⟩
  have HQ : Hid (∀ (X : World) (v : Value), w.heap.size ≤ X.heap.size → ∀ Y, Y.ownsRow X.heap.size 4 1 v T.length ((msF (mkB T.length (myF (mF A E) (nA A) T s))).map Value.bool) → Fresh w Y → MkQ A E T M s w (.returned (.tuple #[v, zV 0])) Y) := fun X v hX Y ho hY => by
    obtain ⟨k1, k2⟩ := mk_ok (s := s) hv0 hc0 hDm
    refine ⟨_, by rw [k1], ?_, hY⟩
    rw [k2, msF_len, mkB_len]
    exact own_low ho hX
  have HTX : Hid (∀ X, Fresh w X → TxR q X tv T) := fun X hX => hT.fresh hX
  obtain ⟨ta, tc, rfl⟩ := hT.shape
  obtain ⟨ma, mc, rfl⟩ := hM.shape
  obtain ⟨ao, ac, rfl⟩ := hA.shape
  obtain ⟨eo, ec, rfl⟩ := hE.shape
  clear hA hE hT hM hDm
  generalize MkQ A E T M s = Q at *
  generalize hgg : myF (mF A E) (nA A) T s = g at *
  clear hgg
  generalize vcP T M = cp at *
  generalize chP A E = gp at *
  clear hv0 hc0
  subst hs
  have HA0 : Hid (A.length = 0) := hA0
  clear hA0
  generalize A.length = na at *
  go_enter Try.func21, Try.ntmps21
  go_upto_region 1 with fail
  have HK0 : Hid (Fresh ((w.alloc (.cells #[.slice ao na ac, .slice eo E.length ec] 28)).alloc (.cells #[.slice ta T.length tc, .slice ma M.length mc] 55)) ((w.alloc (.cells #[.slice ao na ac, .slice eo E.length ec] 28)).alloc (.cells #[.slice ta T.length tc, .slice ma M.length mc] 55))) := Kept.refl _ _
  generalize (w.alloc (.cells #[.slice ao na ac, .slice eo E.length ec] 28)).alloc (.cells #[.slice ta T.length tc, .slice ma M.length mc] 55) = W1 at *
  have HX : Hid (∀ X, Fresh W1 X → Fresh w X ∧ X.cell? ⟨w.heap.size, 0, none⟩ = some (.slice ao na ac) ∧ X.cell? ⟨w.heap.size, 1, none⟩ = some (.slice eo E.length ec) ∧ X.cell? ⟨w.heap.size + 1, 0, none⟩ = some (.slice ta T.length tc) ∧ X.cell? ⟨w.heap.size + 1, 1, none⟩ = some (.slice ma M.length mc)) := fun X hk => by
    obtain ⟨hf1, hb0, hb1⟩ := HB.out X hk
    exact ⟨hf1, by rw [Lib.cell_of_heap hb0]; rfl, by rw [Lib.cell_of_heap hb0]; rfl, by rw [Lib.cell_of_heap hb1]; rfl, by rw [Lib.cell_of_heap hb1]; rfl⟩
  clear HB
  obtain ⟨hf1, x0, x1, x2, x3⟩ := HX.out W1 HK0.out
  have HV1 := show Hid _ from HVC.out W1 hf1
  clear hf1 HVC HK0
  go_wp2_with fail
  refine Calls.mono HV1.out ?_
  rintro e W2 ⟨rfl, hf2⟩
  obtain ⟨hf2w, x0, x1, x2, x3⟩ := HX.out W2 hf2
  have HF2 : Hid (Fresh W1 W2) := hf2
  have HG1c := show Hid _ from HGC.out W2 hf2w
  clear hf2 hf2w HV1 HGC
  go_wp2_with fail
  refine Calls.mono HG1c.out ?_
  rintro e W3 ⟨rfl, hf3⟩
  have HF3 : Hid (Fresh W1 W3) := HF2.out.trans hf3 (fun _ _ e => e)
  obtain ⟨hf3w, x0, x1, x2, x3⟩ := HX.out W3 HF3.out
  clear hf3 HF2 HG1c
  have hpos : ¬ (0 : Int) < (na : Int) := by
    have := HA0.out
    omega
  have HF4 : Hid (Fresh W1 W3) := HF3.out
  have HR1 := show Hid _ from HRA.out W3 hf3w
  clear HF3 hf3w
  clear HRA
  go_wp2_with fail
  refine Calls.mono HR1.out ?_
  rintro e W5 ⟨lv, rfl, hown, hf5⟩
  have HF5 : Hid (Fresh W1 W5) := HF4.out.trans hf5 (fun _ _ e => e)
  obtain ⟨lo, lc, hlv⟩ := ownsRow_shape hown
  subst hlv
  clear hown hf5 HR1 HF4
  have HI0 : Hid (ReI W5 g (.slice (some ⟨W5.heap.size, 0, none⟩) 0 0) 0 (W5.alloc (.cells #[] 4))) := ReI.start (Kept.refl _ W5)
  have HLO : Hid (w.heap.size ≤ W5.heap.size) := ((HX.out W5 HF5.out).1).size
  go_upto_region 12 with fail
  generalize W5.alloc (.cells #[] 4) = W6 at *
  obtain ⟨ob, hob⟩ : ∃ ob, W5.heap.size = ob := ⟨_, rfl⟩
  rw [hob] at HI0
  rw [hob]
  clear hob
  have hwt2 := hwt.1
  have hwt3 := hwt.2.1
  clear hwt x0 x1 x2 x3
  obtain ⟨N, hN⟩ : ∃ N, N = T.length := ⟨_, rfl⟩
  rw [← hN] at hwt2 hwt3 HX HQ HTX
  rw [← hN]
  have HNT : Hid (N = T.length) := hN
  clear hN
  go_wp2
  go_loopw [14, 15, 16] (fun ov sv iv wr => ∃ (j : Nat) (so : Option Addr) (c : Nat), j ≤ N ∧ iv = zV j ∧ ov = .slice so j c ∧ sv = .bool (anyB (mkB j g)) ∧ Hid (ReI W5 g (.slice so j c) j wr)) (fun _ _ iv _ => N - (RowKit.intOf iv).toNat)
  case atStart => exact ⟨0, _, 0, Nat.zero_le _, rfl, rfl, rfl, HI0.out⟩
  case round =>
    obtain ⟨j, so, c, hj, rfl, rfl, rfl, HA⟩ := hrel
    clear HI0
    obtain ⟨hfw, x0, x1, x2, x3⟩ := HX.out wr (HF5.out.trans HA.out.2 (fun _ _ e => e))
    by_cases hlt : j < N
    · have hlt' : (j : Int) < (N : Int) := by omega
      have h0j : (0 : Int) ≤ (j : Int) := by omega
      have HSN : Hid (∀ y, g j = y → anyB (mkB (j + 1) g) = (anyB (mkB j g) || y)) := fun y hy => by rw [mkB_succ, anyB_snoc, hy]
      obtain ⟨sm, hsm⟩ : ∃ sm, anyB (mkB j g) = sm := ⟨_, rfl⟩
      rw [hsm] at HSN
      rw [hsm]
      clear hsm
      obtain ⟨so2, c2, X2, hrun, hre⟩ := HA.out.push (by omega) true (HG.out j)
      have HS2 : Hid (anyB (mkB (j + 1) g) = (sm || true)) := HSN.out _ (HG.out j)
      have HZ : Hid _ := hre
      have hcap := HA
      clear hre HA HSN hfw HTX
      cases sm with
      | true =>
        go_wp2_with (at_builtin; refine Lib.wpList_append_run _ rfl _ _ _ _ rfl _ _ rfl rfl _ _ hrun ?_)
        clear hrun
        go_roundw
        case rel => exact ⟨j + 1, so2, c2, hlt, by go_num, rfl, by rw [HS2.out]; rfl, HZ.out⟩
        case measure => simp [RowKit.intOf]; omega
      | false =>
        go_wp2_with (at_builtin; refine Lib.wpList_append_run _ rfl _ _ _ _ rfl _ _ rfl rfl _ _ hrun ?_)
        clear hrun
        go_roundw
        case rel => exact ⟨j + 1, so2, c2, hlt, by go_num, rfl, by rw [HS2.out]; rfl, HZ.out⟩
        case measure => simp [RowKit.intOf]; omega
    · obtain rfl : j = N := by omega
      have hlt' : ¬ ((j : Int) < (j : Int)) := by omega
      have HFY : Hid (Fresh w wr) := hfw
      obtain ⟨b, cb, hv, ⟨z0, hz0⟩, hz1⟩ := HA.out.blk (by omega)
      injection hv with e1 _ e3
      subst e1
      subst e3
      cases hany : anyB (mkB j g) with
      | true =>
        have HZ : Hid (Q w (.returned (.tuple #[.slice (some ⟨b, 0, none⟩) j c, zV 0])) wr) := HQ.out W5 _ HLO.out wr (HA.out.done hany) HFY.out
        clear HQ HA hfw hany
        go_wp2
        exact HZ.out
      | false =>
        have hl := HA.out.last hany
        have HZ : Hid (Q w (.returned (.tuple #[.slice (some ⟨b, 0, none⟩) j c, zV 0])) (wr.setCell ⟨b, 0, none⟩ (.bool true))) := HQ.out W5 _ HLO.out _ hl.1 ((HX.out _ (HF5.out.trans hl.2 (fun _ _ e => e))).1)
        clear HQ HA hfw hany hl
        go_wp2
        exact HZ.out
set_option maxHeartbeats 2000000 in
set_option maxRecDepth 100000 in
theorem rmask_none0 {p q : Nat → Prop} (A : List Bool) (E : List Ed) (T : List (List UInt8)) (M : List Mg) (an en tv mv : Value) (w : World) (hA : RbL p w an A) (hE : EdR p w en E) (hT : TxR q w tv T) (hM : MgR q w mv M) (s : Int) (hv0 : vcE T M = 0) (hc0 : chE A E = 0) (hA0 : A.length = 0) (hs : s = -1) :
    Calls Try.prog 21 #[.agg #[an, en], .agg #[tv, mv], zV s] w fun e w' => MkQ A E T M s w e w' := by
  have HB := show Hid _ from box2 w #[an, en] #[tv, mv] 28 55
  have HVC : Hid (∀ X, Fresh w X → Calls Try.prog 27 #[.agg #[tv, mv]] X fun e X' => e = .returned (.tuple #[zV (vcP T M), zV 0]) ∧ Fresh X X') := fun X hX => by
    have := refCheck_any X tv mv T M (hT.fresh hX) (hM.fresh hX)
    rwa [hv0] at this
  have HGC : Hid (∀ X, Fresh w X → Calls Try.prog 11 #[.agg #[an, en]] X fun e X' => e = .returned (.tuple #[zV (chP A E), zV 0]) ∧ Fresh X X') := fun X hX => by
    have := rcheck_any A E an en X (hA.fresh hX) (hE.fresh hX)
    rwa [hc0] at this
  have HRA : Hid (∀ X, Fresh w X → Calls Try.prog 13 #[.agg #[an, en]] X fun e w' => ∃ v, e = .returned v ∧ w'.ownsRow X.heap.size 4 1 v A.length ((drL A E).map Value.bool) ∧ Fresh X w') := fun X hX => ralive_any A E an en X (hA.fresh hX) (hE.fresh hX)
  have hwt := wrT_good (vcE_zero hv0).1
  have HG : Hid (∀ i, myF (mF A E) (nA A) T s i = false) := fun i => by rw [hs]; exact my_none i
  have hDm : DmS A s := .inl hs
  have HQ : Hid (∀ (X : World) (v : Value), w.heap.size ≤ X.heap.size → ∀ Y, Y.ownsRow X.heap.size 4 1 v T.length ((msF (mkB T.length (myF (mF A E) (nA A) T s))).map Value.bool) → Fresh w Y → MkQ A E T M s w (.returned (.tuple #[v, zV 0])) Y) := fun X v hX Y ho hY => by
    obtain ⟨k1, k2⟩ := mk_ok (s := s) hv0 hc0 hDm
    refine ⟨_, by rw [k1], ?_, hY⟩
    rw [k2, msF_len, mkB_len]
    exact own_low ho hX
  have HTX : Hid (∀ X, Fresh w X → TxR q X tv T) := fun X hX => hT.fresh hX
  obtain ⟨ta, tc, rfl⟩ := hT.shape
  obtain ⟨ma, mc, rfl⟩ := hM.shape
  obtain ⟨ao, ac, rfl⟩ := hA.shape
  obtain ⟨eo, ec, rfl⟩ := hE.shape
  clear hA hE hT hM hDm
  generalize MkQ A E T M s = Q at *
  generalize hgg : myF (mF A E) (nA A) T s = g at *
  clear hgg
  generalize vcP T M = cp at *
  generalize chP A E = gp at *
  clear hv0 hc0
  subst hs
  have HA0 : Hid (A.length = 0) := hA0
  clear hA0
  generalize A.length = na at *
  go_enter Try.func21, Try.ntmps21
  go_upto_region 1 with fail
  have HK0 : Hid (Fresh ((w.alloc (.cells #[.slice ao na ac, .slice eo E.length ec] 28)).alloc (.cells #[.slice ta T.length tc, .slice ma M.length mc] 55)) ((w.alloc (.cells #[.slice ao na ac, .slice eo E.length ec] 28)).alloc (.cells #[.slice ta T.length tc, .slice ma M.length mc] 55))) := Kept.refl _ _
  generalize (w.alloc (.cells #[.slice ao na ac, .slice eo E.length ec] 28)).alloc (.cells #[.slice ta T.length tc, .slice ma M.length mc] 55) = W1 at *
  have HX : Hid (∀ X, Fresh W1 X → Fresh w X ∧ X.cell? ⟨w.heap.size, 0, none⟩ = some (.slice ao na ac) ∧ X.cell? ⟨w.heap.size, 1, none⟩ = some (.slice eo E.length ec) ∧ X.cell? ⟨w.heap.size + 1, 0, none⟩ = some (.slice ta T.length tc) ∧ X.cell? ⟨w.heap.size + 1, 1, none⟩ = some (.slice ma M.length mc)) := fun X hk => by
    obtain ⟨hf1, hb0, hb1⟩ := HB.out X hk
    exact ⟨hf1, by rw [Lib.cell_of_heap hb0]; rfl, by rw [Lib.cell_of_heap hb0]; rfl, by rw [Lib.cell_of_heap hb1]; rfl, by rw [Lib.cell_of_heap hb1]; rfl⟩
  clear HB
  obtain ⟨hf1, x0, x1, x2, x3⟩ := HX.out W1 HK0.out
  have HV1 := show Hid _ from HVC.out W1 hf1
  clear hf1 HVC HK0
  go_wp2_with fail
  refine Calls.mono HV1.out ?_
  rintro e W2 ⟨rfl, hf2⟩
  obtain ⟨hf2w, x0, x1, x2, x3⟩ := HX.out W2 hf2
  have HF2 : Hid (Fresh W1 W2) := hf2
  have HG1c := show Hid _ from HGC.out W2 hf2w
  clear hf2 hf2w HV1 HGC
  go_wp2_with fail
  refine Calls.mono HG1c.out ?_
  rintro e W3 ⟨rfl, hf3⟩
  have HF3 : Hid (Fresh W1 W3) := HF2.out.trans hf3 (fun _ _ e => e)
  obtain ⟨hf3w, x0, x1, x2, x3⟩ := HX.out W3 HF3.out
  clear hf3 HF2 HG1c
  have HF4 : Hid (Fresh W1 W3) := HF3.out
  have HR1 := show Hid _ from HRA.out W3 hf3w
  clear HF3 hf3w
  clear HRA
  go_wp2_with fail
  refine Calls.mono HR1.out ?_
  rintro e W5 ⟨lv, rfl, hown, hf5⟩
  have HF5 : Hid (Fresh W1 W5) := HF4.out.trans hf5 (fun _ _ e => e)
  obtain ⟨lo, lc, hlv⟩ := ownsRow_shape hown
  subst hlv
  clear hown hf5 HR1 HF4
  have HI0 : Hid (ReI W5 g (.slice (some ⟨W5.heap.size, 0, none⟩) 0 0) 0 (W5.alloc (.cells #[] 4))) := ReI.start (Kept.refl _ W5)
  have HLO : Hid (w.heap.size ≤ W5.heap.size) := ((HX.out W5 HF5.out).1).size
  go_upto_region 12 with fail
  have HD1 : Hid (decide ((0 : Int) < (na : Int)) = false) := decide_eq_false (by have := HA0.out; omega)
  have HD2 : Hid (decide (0 < na) = false) := decide_eq_false (by have := HA0.out; omega)
  first | simp only [HD1.out] | simp only [HD2.out]
  generalize W5.alloc (.cells #[] 4) = W6 at *
  obtain ⟨ob, hob⟩ : ∃ ob, W5.heap.size = ob := ⟨_, rfl⟩
  rw [hob] at HI0
  rw [hob]
  clear hob
  have hwt2 := hwt.1
  have hwt3 := hwt.2.1
  clear hwt x0 x1 x2 x3
  obtain ⟨N, hN⟩ : ∃ N, N = T.length := ⟨_, rfl⟩
  rw [← hN] at hwt2 hwt3 HX HQ HTX
  rw [← hN]
  have HNT : Hid (N = T.length) := hN
  clear hN
  go_wp2
  go_loopw [14, 15, 16] (fun ov sv iv wr => ∃ (j : Nat) (so : Option Addr) (c : Nat), j ≤ N ∧ iv = zV j ∧ ov = .slice so j c ∧ sv = .bool (anyB (mkB j g)) ∧ Hid (ReI W5 g (.slice so j c) j wr)) (fun _ _ iv _ => N - (RowKit.intOf iv).toNat)
  case atStart => exact ⟨0, _, 0, Nat.zero_le _, rfl, rfl, rfl, HI0.out⟩
  case round =>
    obtain ⟨j, so, c, hj, rfl, rfl, rfl, HA⟩ := hrel
    clear HI0
    obtain ⟨hfw, x0, x1, x2, x3⟩ := HX.out wr (HF5.out.trans HA.out.2 (fun _ _ e => e))
    by_cases hlt : j < N
    · have hlt' : (j : Int) < (N : Int) := by omega
      have h0j : (0 : Int) ≤ (j : Int) := by omega
      have HSN : Hid (∀ y, g j = y → anyB (mkB (j + 1) g) = (anyB (mkB j g) || y)) := fun y hy => by rw [mkB_succ, anyB_snoc, hy]
      obtain ⟨sm, hsm⟩ : ∃ sm, anyB (mkB j g) = sm := ⟨_, rfl⟩
      rw [hsm] at HSN
      rw [hsm]
      clear hsm
      obtain ⟨so2, c2, X2, hrun, hre⟩ := HA.out.push (by omega) false (HG.out j)
      have HS2 : Hid (anyB (mkB (j + 1) g) = (sm || false)) := HSN.out _ (HG.out j)
      have HZ : Hid _ := hre
      have hcap := HA
      clear hre HA HSN hfw HTX
      cases sm with
      | true =>
        go_wp2_with (at_builtin; refine Lib.wpList_append_run _ rfl _ _ _ _ rfl _ _ rfl rfl _ _ hrun ?_)
        clear hrun
        go_roundw
        case rel => exact ⟨j + 1, so2, c2, hlt, by go_num, rfl, by rw [HS2.out]; rfl, HZ.out⟩
        case measure => simp [RowKit.intOf]; omega
      | false =>
        go_wp2_with (at_builtin; refine Lib.wpList_append_run _ rfl _ _ _ _ rfl _ _ rfl rfl _ _ hrun ?_)
        clear hrun
        go_roundw
        case rel => exact ⟨j + 1, so2, c2, hlt, by go_num, rfl, by rw [HS2.out]; rfl, HZ.out⟩
        case measure => simp [RowKit.intOf]; omega
    · obtain rfl : j = N := by omega
      have hlt' : ¬ ((j : Int) < (j : Int)) := by omega
      have HFY : Hid (Fresh w wr) := hfw
      obtain ⟨b, cb, hv, ⟨z0, hz0⟩, hz1⟩ := HA.out.blk (by omega)
      injection hv with e1 _ e3
      subst e1
      subst e3
      cases hany : anyB (mkB j g) with
      | true =>
        have HZ : Hid (Q w (.returned (.tuple #[.slice (some ⟨b, 0, none⟩) j c, zV 0])) wr) := HQ.out W5 _ HLO.out wr (HA.out.done hany) HFY.out
        clear HQ HA hfw hany
        go_wp2
        exact HZ.out
      | false =>
        have hl := HA.out.last hany
        have HZ : Hid (Q w (.returned (.tuple #[.slice (some ⟨b, 0, none⟩) j c, zV 0])) (wr.setCell ⟨b, 0, none⟩ (.bool true))) := HQ.out W5 _ HLO.out _ hl.1 ((HX.out _ (HF5.out.trans hl.2 (fun _ _ e => e))).1)
        clear HQ HA hfw hany hl
        go_wp2
        exact HZ.out
set_option maxHeartbeats 2000000 in
set_option maxRecDepth 100000 in
theorem rmask_none1 {p q : Nat → Prop} (A : List Bool) (E : List Ed) (T : List (List UInt8)) (M : List Mg) (an en tv mv : Value) (w : World) (hA : RbL p w an A) (hE : EdR p w en E) (hT : TxR q w tv T) (hM : MgR q w mv M) (s : Int) (hv0 : vcE T M = 0) (hc0 : chE A E = 0) (hA0 : 0 < A.length) (hs : s = -1) :
    Calls Try.prog 21 #[.agg #[an, en], .agg #[tv, mv], zV s] w fun e w' => MkQ A E T M s w e w' := by
  have HB := show Hid _ from box2 w #[an, en] #[tv, mv] 28 55
  have HVC : Hid (∀ X, Fresh w X → Calls Try.prog 27 #[.agg #[tv, mv]] X fun e X' => e = .returned (.tuple #[zV (vcP T M), zV 0]) ∧ Fresh X X') := fun X hX => by
    have := refCheck_any X tv mv T M (hT.fresh hX) (hM.fresh hX)
    rwa [hv0] at this
  have HGC : Hid (∀ X, Fresh w X → Calls Try.prog 11 #[.agg #[an, en]] X fun e X' => e = .returned (.tuple #[zV (chP A E), zV 0]) ∧ Fresh X X') := fun X hX => by
    have := rcheck_any A E an en X (hA.fresh hX) (hE.fresh hX)
    rwa [hc0] at this
  have HRA : Hid (∀ X, Fresh w X → Calls Try.prog 13 #[.agg #[an, en]] X fun e w' => ∃ v, e = .returned v ∧ w'.ownsRow X.heap.size 4 1 v A.length ((drL A E).map Value.bool) ∧ Fresh X w') := fun X hX => ralive_any A E an en X (hA.fresh hX) (hE.fresh hX)
  have hwt := wrT_good (vcE_zero hv0).1
  have HG : Hid (∀ i, myF (mF A E) (nA A) T s i = false) := fun i => by rw [hs]; exact my_none i
  have hDm : DmS A s := .inl hs
  have HQ : Hid (∀ (X : World) (v : Value), w.heap.size ≤ X.heap.size → ∀ Y, Y.ownsRow X.heap.size 4 1 v T.length ((msF (mkB T.length (myF (mF A E) (nA A) T s))).map Value.bool) → Fresh w Y → MkQ A E T M s w (.returned (.tuple #[v, zV 0])) Y) := fun X v hX Y ho hY => by
    obtain ⟨k1, k2⟩ := mk_ok (s := s) hv0 hc0 hDm
    refine ⟨_, by rw [k1], ?_, hY⟩
    rw [k2, msF_len, mkB_len]
    exact own_low ho hX
  have HTX : Hid (∀ X, Fresh w X → TxR q X tv T) := fun X hX => hT.fresh hX
  obtain ⟨ta, tc, rfl⟩ := hT.shape
  obtain ⟨ma, mc, rfl⟩ := hM.shape
  obtain ⟨ao, ac, rfl⟩ := hA.shape
  obtain ⟨eo, ec, rfl⟩ := hE.shape
  clear hA hE hT hM hDm
  generalize MkQ A E T M s = Q at *
  generalize hgg : myF (mF A E) (nA A) T s = g at *
  clear hgg
  generalize vcP T M = cp at *
  generalize chP A E = gp at *
  clear hv0 hc0
  subst hs
  have HA0 : Hid (0 < A.length) := hA0
  clear hA0
  generalize A.length = na at *
  go_enter Try.func21, Try.ntmps21
  go_upto_region 1 with fail
  have HK0 : Hid (Fresh ((w.alloc (.cells #[.slice ao na ac, .slice eo E.length ec] 28)).alloc (.cells #[.slice ta T.length tc, .slice ma M.length mc] 55)) ((w.alloc (.cells #[.slice ao na ac, .slice eo E.length ec] 28)).alloc (.cells #[.slice ta T.length tc, .slice ma M.length mc] 55))) := Kept.refl _ _
  generalize (w.alloc (.cells #[.slice ao na ac, .slice eo E.length ec] 28)).alloc (.cells #[.slice ta T.length tc, .slice ma M.length mc] 55) = W1 at *
  have HX : Hid (∀ X, Fresh W1 X → Fresh w X ∧ X.cell? ⟨w.heap.size, 0, none⟩ = some (.slice ao na ac) ∧ X.cell? ⟨w.heap.size, 1, none⟩ = some (.slice eo E.length ec) ∧ X.cell? ⟨w.heap.size + 1, 0, none⟩ = some (.slice ta T.length tc) ∧ X.cell? ⟨w.heap.size + 1, 1, none⟩ = some (.slice ma M.length mc)) := fun X hk => by
    obtain ⟨hf1, hb0, hb1⟩ := HB.out X hk
    exact ⟨hf1, by rw [Lib.cell_of_heap hb0]; rfl, by rw [Lib.cell_of_heap hb0]; rfl, by rw [Lib.cell_of_heap hb1]; rfl, by rw [Lib.cell_of_heap hb1]; rfl⟩
  clear HB
  obtain ⟨hf1, x0, x1, x2, x3⟩ := HX.out W1 HK0.out
  have HV1 := show Hid _ from HVC.out W1 hf1
  clear hf1 HVC HK0
  go_wp2_with fail
  refine Calls.mono HV1.out ?_
  rintro e W2 ⟨rfl, hf2⟩
  obtain ⟨hf2w, x0, x1, x2, x3⟩ := HX.out W2 hf2
  have HF2 : Hid (Fresh W1 W2) := hf2
  have HG1c := show Hid _ from HGC.out W2 hf2w
  clear hf2 hf2w HV1 HGC
  go_wp2_with fail
  refine Calls.mono HG1c.out ?_
  rintro e W3 ⟨rfl, hf3⟩
  have HF3 : Hid (Fresh W1 W3) := HF2.out.trans hf3 (fun _ _ e => e)
  obtain ⟨hf3w, x0, x1, x2, x3⟩ := HX.out W3 HF3.out
  clear hf3 HF2 HG1c
  have hpos : (0 : Int) < (na : Int) := by
    have := HA0.out
    omega
  have hpos2 : decide (0 < na) = true := decide_eq_true HA0.out
  have hpos3 : decide ((0 : Int) < (na : Int)) = true := decide_eq_true hpos
  have hpos4 : ¬ na = 0 := by
    have := HA0.out
    omega
  have HF4 : Hid (Fresh W1 W3) := HF3.out
  have HR1 := show Hid _ from HRA.out W3 hf3w
  clear HF3 hf3w
  clear HRA
  go_wp2_with fail
  refine Calls.mono HR1.out ?_
  rintro e W5 ⟨lv, rfl, hown, hf5⟩
  have HF5 : Hid (Fresh W1 W5) := HF4.out.trans hf5 (fun _ _ e => e)
  obtain ⟨lo, lc, hlv⟩ := ownsRow_shape hown
  subst hlv
  clear hown hf5 HR1 HF4
  have HI0 : Hid (ReI W5 g (.slice (some ⟨W5.heap.size, 0, none⟩) 0 0) 0 (W5.alloc (.cells #[] 4))) := ReI.start (Kept.refl _ W5)
  have HLO : Hid (w.heap.size ≤ W5.heap.size) := ((HX.out W5 HF5.out).1).size
  go_upto_region 12 with fail
  generalize W5.alloc (.cells #[] 4) = W6 at *
  obtain ⟨ob, hob⟩ : ∃ ob, W5.heap.size = ob := ⟨_, rfl⟩
  rw [hob] at HI0
  rw [hob]
  clear hob
  have hwt2 := hwt.1
  have hwt3 := hwt.2.1
  clear hwt x0 x1 x2 x3
  obtain ⟨N, hN⟩ : ∃ N, N = T.length := ⟨_, rfl⟩
  rw [← hN] at hwt2 hwt3 HX HQ HTX
  rw [← hN]
  have HNT : Hid (N = T.length) := hN
  clear hN
  go_wp2
  go_loopw [14, 15, 16] (fun ov sv iv wr => ∃ (j : Nat) (so : Option Addr) (c : Nat), j ≤ N ∧ iv = zV j ∧ ov = .slice so j c ∧ sv = .bool (anyB (mkB j g)) ∧ Hid (ReI W5 g (.slice so j c) j wr)) (fun _ _ iv _ => N - (RowKit.intOf iv).toNat)
  case atStart => exact ⟨0, _, 0, Nat.zero_le _, rfl, rfl, rfl, HI0.out⟩
  case round =>
    obtain ⟨j, so, c, hj, rfl, rfl, rfl, HA⟩ := hrel
    clear HI0
    obtain ⟨hfw, x0, x1, x2, x3⟩ := HX.out wr (HF5.out.trans HA.out.2 (fun _ _ e => e))
    by_cases hlt : j < N
    · have hlt' : (j : Int) < (N : Int) := by omega
      have h0j : (0 : Int) ≤ (j : Int) := by omega
      have HSN : Hid (∀ y, g j = y → anyB (mkB (j + 1) g) = (anyB (mkB j g) || y)) := fun y hy => by rw [mkB_succ, anyB_snoc, hy]
      obtain ⟨sm, hsm⟩ : ∃ sm, anyB (mkB j g) = sm := ⟨_, rfl⟩
      rw [hsm] at HSN
      rw [hsm]
      clear hsm
      obtain ⟨so2, c2, X2, hrun, hre⟩ := HA.out.push (by omega) false (HG.out j)
      have HS2 : Hid (anyB (mkB (j + 1) g) = (sm || false)) := HSN.out _ (HG.out j)
      have HZ : Hid _ := hre
      have hcap := HA
      clear hre HA HSN hfw HTX
      cases sm with
      | true =>
        go_wp2_with (at_builtin; refine Lib.wpList_append_run _ rfl _ _ _ _ rfl _ _ rfl rfl _ _ hrun ?_)
        clear hrun
        go_roundw
        case rel => exact ⟨j + 1, so2, c2, hlt, by go_num, rfl, by rw [HS2.out]; rfl, HZ.out⟩
        case measure => simp [RowKit.intOf]; omega
      | false =>
        go_wp2_with (at_builtin; refine Lib.wpList_append_run _ rfl _ _ _ _ rfl _ _ rfl rfl _ _ hrun ?_)
        clear hrun
        go_roundw
        case rel => exact ⟨j + 1, so2, c2, hlt, by go_num, rfl, by rw [HS2.out]; rfl, HZ.out⟩
        case measure => simp [RowKit.intOf]; omega
    · obtain rfl : j = N := by omega
      have hlt' : ¬ ((j : Int) < (j : Int)) := by omega
      have HFY : Hid (Fresh w wr) := hfw
      obtain ⟨b, cb, hv, ⟨z0, hz0⟩, hz1⟩ := HA.out.blk (by omega)
      injection hv with e1 _ e3
      subst e1
      subst e3
      cases hany : anyB (mkB j g) with
      | true =>
        have HZ : Hid (Q w (.returned (.tuple #[.slice (some ⟨b, 0, none⟩) j c, zV 0])) wr) := HQ.out W5 _ HLO.out wr (HA.out.done hany) HFY.out
        clear HQ HA hfw hany
        go_wp2
        exact HZ.out
      | false =>
        have hl := HA.out.last hany
        have HZ : Hid (Q w (.returned (.tuple #[.slice (some ⟨b, 0, none⟩) j c, zV 0])) (wr.setCell ⟨b, 0, none⟩ (.bool true))) := HQ.out W5 _ HLO.out _ hl.1 ((HX.out _ (HF5.out.trans hl.2 (fun _ _ e => e))).1)
        clear HQ HA hfw hany hl
        go_wp2
        exact HZ.out
end Go.Proofs.Ytdponkpgokncdaa
