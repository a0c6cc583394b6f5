/-
  begun: the walk.
-/
import Derived.Test.YtomeoklhjdgaoaaDoorSuu
namespace Go.Proofs.YtomeoklhjdgaoaaDoor
open Go.RowKit Go.Lib Go.Maps

/-- A world in which six cells have been laid, taken as a name. -/
theorem six_gen {W : World} {z : Nat} {a0 a1 a2 a3 a4 a5 v0 v1 v2 v3 v4 v5 : Value} {t : TypeId} {G : World → Prop} (h0 : W.heap[z]? = some (.cells #[a0, a1, a2, a3, a4, a5] t (0, 0)))
    (h : ∀ Y, Y.heap[z]? = some (.cells #[v0, v1, v2, v3, v4, v5] t (0, 0)) → Kept (fun q => q = z) W Y → G Y) : G ((((((W.setCell ⟨z, 0, none⟩ v0).setCell ⟨z, 1, none⟩ v1).setCell ⟨z, 2, none⟩ v2).setCell ⟨z, 3, none⟩ v3).setCell ⟨z, 4, none⟩ v4).setCell ⟨z, 5, none⟩ v5).drew :=
  by
  have h1 := six_set h0 v0 v1 v2 v3 v4 v5
  have h2 := six_kept (W := W) (z := z) v0 v1 v2 v3 v4 v5
  generalize ((((((W.setCell ⟨z, 0, none⟩ v0).setCell ⟨z, 1, none⟩ v1).setCell ⟨z, 2, none⟩ v2).setCell ⟨z, 3, none⟩ v3).setCell ⟨z, 4, none⟩ v4).setCell ⟨z, 5, none⟩ v5) = X at h1 h2 ⊢
  exact h X.drew h1 h2.drew
/-- What begun answers. -/
def BegQ (T : List (List UInt8)) (w : World) (e : Ending) (w' : World) : Prop :=
  ∃ (pv : Value) (F : Nat → Prop) (so : Option Addr) (sn sc : Nat) (no : Bool), e = .returned (.tuple #[pv, rsV no (.slice so sn sc) [] [] (-1) false, .bool true]) ∧ PlS T F w' pv so sn sc no [] [] (-1) false ∧ Nw0 w F ∧ Fresh w w' ∧ (pv = .pointer none ∨ ∃ b, pv = .pointer (some ⟨b, 0, none⟩)) ∧ (no = false → TxR (fun q => ¬ F q ∧ w.heap.size ≤ q) w' (.slice so sn sc) T)
theorem BegQ.cast {T : List (List UInt8)} {w : World} {e e2 : Ending} {w' : World} (h : BegQ T w e w') (he : e2 = e) : BegQ T w e2 w' := he ▸ h
set_option maxHeartbeats 8000000 in
set_option maxRecDepth 100000 in
theorem begun_any {p : Nat → Prop} (T : List (List UInt8)) (v : Value) (w : World) (hR : TxR p w v T) (hm : TbM w) :
    Calls Tryd.prog 13 #[v] w fun e w' => BegQ T w e w' := by
  have h20 := hR.len
  have hel := hR.each
  have HR : Hid (∀ W, Fresh w W → TxR p W v T) := fun W hk => hR.fresh hk
  have hF0 : Fresh w (w.alloc rs0) := (Kept.refl _ w).alloc _
  have hFa : Fresh w ((w.alloc rs0).alloc (.cells #[] 9)) := hF0.alloc _
  have hb0 : ((w.alloc rs0).alloc (.cells #[] 9)).heap[w.heap.size]? = some rs0 := alloc1 _ _ _
  have ho := own_empty (w.alloc rs0) (w.heap.size + 1) (by rw [World.size_alloc]; omega) 9
  rw [World.size_alloc] at ho
  obtain ⟨t1, W1, g1, g2, g3⟩ := twinT 26 ((w.alloc rs0).alloc (.cells #[] 9)) (w.heap.size + 1) (.slice (some ⟨w.heap.size + 1, 0, none⟩) 0 0) ho (by rw [World.size_alloc, World.size_alloc]; omega) v T _ (hR.fresh hFa)
  have hF1 : Fresh w W1 := hFa.grown g3 (fun k hk e => by simp [Value.ownBlock] at e; omega)
  have hb1 : W1.heap[w.heap.size]? = some rs0 := (g3.block _ (by rw [World.size_alloc, World.size_alloc]; omega) (by simp [Value.ownBlock])).trans hb0
  have hIn := inAt_of g2
  have hT1 := txr_of_own g2 hel h20
  obtain ⟨a1, c1, hsh⟩ := ownsRow_shape g2
  subst hsh
  have HN := show Hid _ from New_any T _ W1 hT1 (hm.fresh hF1)
  have HIn : Hid (InAt T (.slice a1 T.length c1) (w.heap.size + 1) W1.heap.size 0 W1) := hIn
  have HB1 : Hid (W1.heap[w.heap.size]? = some rs0 ∧ Fresh w W1) := ⟨hb1, hF1⟩
  obtain ⟨ao, cap, rfl⟩ := hR.shape
  clear hR hm hF0 hFa hb0 ho g2 g3 hF1 hb1 hIn hT1 hel
  generalize hn : T.length = n at *
  have HTn : Hid (T.length = n) := hn
  clear hn
  go_enter Tryd.func13, Tryd.ntmps13
  go_wp2_with (at_builtin; refine Lib.wpList_append_run _ rfl _ _ _ _ rfl _ _ rfl rfl _ _ g1 ?_; clear g1)
  refine Calls.mono HN.out ?_
  rintro e' W2 ⟨hF2, hc⟩
  have HC : Hid _ := hc
  have HN2 := show Hid _ from refNew_any T (.slice ao n cap) W2 (HR.out W2 (HB1.out.2.trans hF2 (fun _ _ e => e)))
  have HF2 : Hid (Fresh W1 W2) := hF2
  clear HN hF2
  have hs1 : w.heap.size < W1.heap.size := lt_of_heap HB1.out.1
  clear HC
  rcases hc with ⟨hc0, rfl⟩ | ⟨hc0, b, F, rfl, hS, hNw, hlt⟩
  case' inl =>
    have HE0 : Hid (chkF T ≠ 0) := hc0
    go_wp2_with fail
    refine Calls.mono HN2.out ?_
    rintro e' W3 ⟨hF3, hcc⟩
    have HF3 : Hid (Fresh W1 W3) := HF2.out.trans hF3 (fun _ _ e => e)
    have hcb : (chkF T != 0) = true := by simpa using hc0
    have hmv := hcc.elim (fun h => h.2) (fun h => absurd h.1 HE0.out)
    subst hmv
    clear HN2 hF3 HF2 hcc HE0
    generalize chkF T = E at *
    have hEE : (E == E) = true := beq_self_eq_true _
    go_wp2
    refine wp_gen (C := fun W4 => Hid (W4.heap[W3.heap.size]? = some (rsO true (.slice none 0 0) [] [] (-1) false)) ∧ Hid (W4.heap[w.heap.size]? = some rs0) ∧ Hid (InAt T (.slice a1 n c1) (w.heap.size + 1) W1.heap.size 0 W4) ∧ Hid (Fresh w W4) ∧
      Hid (∀ X X', Kept (fun q => w.heap.size + 1 ≤ q ∧ q < W1.heap.size) W4 X → Kept (fun q => q = w.heap.size) X X' → BegQ T w (.returned (.tuple #[.pointer none, rsV true (.slice none 0 0) [] [] (-1) false, .bool true])) X'))
      ⟨heap_alloc_new _ _, ((Kept.refl (fun _ => False) W3).alloc _).at (HF3.out.at HB1.out.1 (fun e => e)) (fun e => e), HIn.out.kept (HF3.out.alloc _), (HB1.out.2.trans HF3.out (fun _ _ e => e)).alloc _, fun X X' hk hk2 => ?_⟩ ?_
    · have hf : Fresh w X' := (((HB1.out.2.trans HF3.out (fun _ _ e => e)).alloc _).trans hk (fun i hi e => by omega)).trans hk2 (fun i hi e => by have e' : i = w.heap.size := e; omega)
      exact ⟨_, fun _ => False, _, _, _, _, rfl, pls_nil T _ _ _ _ _, fun _ e => e.elim, hf, .inl rfl, fun e => by cases e⟩
    have hb8 : W1.heap.size ≤ W3.heap.size := HF3.out.size
    clear HIn HB1 HF3 hc0
    generalize W3.heap.size = b8 at *
    clear W3
  case' inr =>
    go_wp2_with fail
    refine Calls.mono HN2.out ?_
    rintro e' W3 ⟨hF3, hcc⟩
    have HF3 : Hid (Fresh W1 W3) := HF2.out.trans hF3 (fun _ _ e => e)
    obtain ⟨_, so, sn, sc, rfl, hTx⟩ := hcc.resolve_left (fun h => h.1 hc0)
    have hG := (chk_ok hc0).2
    have HLv : Hid (∀ X', Kept (fun q => (w.heap.size + 1 ≤ q ∧ q < W1.heap.size) ∨ q = w.heap.size) W3 X' → PlS T F X' (.pointer (some ⟨b, 0, none⟩)) so sn sc false [] [] (-1) false) := fun X' hk =>
      pls_new hG ((hS.fresh hF3).kept hk (fun q hq e => by have := hNw q hq; omega)) ((hTx.kept hk (fun q hq e => by have := HF2.out.size; omega)).mono (fun q hq e => by have := hlt q e; omega))
    have HRw : Hid (∀ X', Kept (fun q => (w.heap.size + 1 ≤ q ∧ q < W1.heap.size) ∨ q = w.heap.size) W3 X' → TxR (fun q => ¬ F q ∧ w.heap.size ≤ q) X' (.slice so sn sc) T) := fun X' hk =>
      (hTx.kept hk (fun q hq e => by have := HF2.out.size; omega)).mono (fun q hq => ⟨fun e => by have := hlt q e; omega, by have := HF2.out.size; omega⟩)
    have HNw : Hid (Nw0 w F) := fun q hq => by have := hNw q hq; omega
    clear HN2 hF3 HF2 hcc hTx hG hS hNw hlt
    go_wp2
    refine wp_gen (C := fun W4 => Hid (W4.heap[W3.heap.size]? = some (rsO false (.slice so sn sc) [] [] (-1) false)) ∧ Hid (W4.heap[w.heap.size]? = some rs0) ∧ Hid (InAt T (.slice a1 n c1) (w.heap.size + 1) W1.heap.size 0 W4) ∧ Hid (Fresh w W4) ∧
      Hid (∀ X X', Kept (fun q => w.heap.size + 1 ≤ q ∧ q < W1.heap.size) W4 X → Kept (fun q => q = w.heap.size) X X' → BegQ T w (.returned (.tuple #[.pointer (some ⟨b, 0, none⟩), rsV false (.slice so sn sc) [] [] (-1) false, .bool true])) X'))
      ⟨heap_alloc_new _ _, ((Kept.refl (fun _ => False) W3).alloc _).at (HF3.out.at HB1.out.1 (fun e => e)) (fun e => e), HIn.out.kept (HF3.out.alloc _), (HB1.out.2.trans HF3.out (fun _ _ e => e)).alloc _, fun X X' hk hk2 => ?_⟩ ?_
    · have hf : Fresh w X' := (((HB1.out.2.trans HF3.out (fun _ _ e => e)).alloc _).trans hk (fun i hi e => by omega)).trans hk2 (fun i hi e => by have e' : i = w.heap.size := e; omega)
      have hk3 : Kept (fun q => (w.heap.size + 1 ≤ q ∧ q < W1.heap.size) ∨ q = w.heap.size) W3 X' := ((((Kept.refl (fun q => (w.heap.size + 1 ≤ q ∧ q < W1.heap.size) ∨ q = w.heap.size) W3).alloc _).trans hk (fun i hi e => .inl e)).trans hk2 (fun i hi e => .inr e))
      exact ⟨_, F, _, _, _, _, rfl, HLv.out X' hk3, HNw.out, hf, .inr ⟨b, rfl⟩, fun _ => HRw.out X' hk3⟩
    have hb8 : W1.heap.size ≤ W3.heap.size := HF3.out.size
    clear HIn HB1 HF3 hc0 HLv HRw HNw
    generalize W3.heap.size = b8 at *
    clear W3
  all_goals
    rintro W4 ⟨H8, H0, HIn, HF4, HE⟩
    go_loopw [26] (fun iv wr => ∃ i : Nat, i ≤ n ∧ iv = zV i ∧ Hid (InAt T (.slice a1 n c1) (w.heap.size + 1) W1.heap.size i wr) ∧ Hid (Kept (fun q => w.heap.size + 1 ≤ q ∧ q < W1.heap.size) W4 wr)) (fun iv _ => n - (RowKit.intOf iv).toNat)
    case atStart => exact ⟨0, Nat.zero_le _, rfl, HIn, Kept.refl _ _⟩
    case round =>
      obtain ⟨i, hi, rfl, HI, HKp⟩ := hrel
      clear HIn
      have HFr : Hid (Fresh w wr) := HF4.out.trans HKp.out (fun i hi e => by omega)
      by_cases hlt : i < n
      · have hlt' : (i : Int) < (n : Int) := by omega
        obtain ⟨g, cap', cur, hv, hg1, hg2, hh, hcs, hcell⟩ := HI.out (by rw [HTn.out]; omega)
        injection hv with e1 e2 e3
        subst e1
        have hc := hcell i (Nat.le_refl _) (by rw [HTn.out]; exact hlt)
        have ci : wr.cell? ⟨g, i, none⟩ = some (sV (tX T i)) := by rw [Lib.cell_of_heap hh]; exact hc
        have fz : wr.frozen? ⟨g, i, none⟩ = false := Lib.frozen_of_heap hh i
        obtain ⟨bq, off, rfl, _, hbl, hcs2⟩ := (HR.out wr HFr.out).cells.2.2 (by omega)
        have cs := hcs2 i hlt
        have HI2 : Hid (∀ q x, InAt T (.slice (some ⟨g, 0, none⟩) n c1) (w.heap.size + 1) W1.heap.size (i + 1) ((wr.drewN q).setCell ⟨g, i, none⟩ x)) := fun q x => (HI.out.kept ((Kept.refl (fun _ => False) wr).drewN q)).set _
        have HK2 : Hid (∀ q x, Kept (fun q => w.heap.size + 1 ≤ q ∧ q < W1.heap.size) W4 ((wr.drewN q).setCell ⟨g, i, none⟩ x)) := fun q x => (HKp.out.drewN q).setCell (p := ⟨g, i, none⟩) (fun _ => ⟨hg1, hg2⟩) _
        clear hcs2 hc hcell hh HI HKp hcs e2 e3
        generalize tX T i = x at *
        have hxx : (x == x) = true := beq_self_eq_true _
        go_wp2
        go_quiet (fail)
        go_wp2
        go_roundw
        case rel => exact ⟨i + 1, by omega, by go_num, HI2.out _ _, HK2.out _ _⟩
        case measure => simp [RowKit.intOf]; omega
      · have hlt' : ¬ (i : Int) < (n : Int) := by omega
        have h8 := HKp.out.at H8.out (by omega)
        have h0 := HKp.out.at H0.out (by omega)
        obtain ⟨c0, c1', c2, c3, c4, c5, cf⟩ := six_cells h8
        obtain ⟨z0, z1, z2, z3, z4, z5, zf⟩ := six_cells h0
        have HZ := show Hid _ from h0
        have HEE := show Hid _ from fun X' hk => HE.out wr X' HKp.out hk
        clear h8 h0 H8 H0 HE HKp HI HF4 HFr HR
        go_wp2
        refine wp_region_any (by kernel_rfl) ?_
        change wpAny _ _ _ _ _ _ _ (World.drew _)
        refine wpAny_take (i := 0) (v := ?_) rfl (by kernel_rfl) (by kernel_rfl) (by kernel_rfl) (fun _ _ _ h => h) (Or.inl ⟨by rfl, ?_⟩) ?_
        rotate_left
        · intro w; go_simp; try with_reducible rfl
        rotate_left
        simp [Act.put]
        refine wpAny_take (i := 2) (v := ?_) rfl (by kernel_rfl) (by kernel_rfl) (by kernel_rfl) (fun _ _ _ h => h) (Or.inl ⟨by rfl, ?_⟩) ?_
        rotate_left
        · intro w; go_simp; try with_reducible rfl
        rotate_left
        simp [Act.put]
        refine wpAny_take (i := 3) (v := ?_) rfl (by kernel_rfl) (by kernel_rfl) (by kernel_rfl) (fun _ _ _ h => h) (Or.inl ⟨by rfl, ?_⟩) ?_
        rotate_left
        · intro w; go_simp; try with_reducible rfl
        rotate_left
        simp [Act.put]
        refine wpAny_take (i := 4) (v := ?_) rfl (by kernel_rfl) (by kernel_rfl) (by kernel_rfl) (fun _ _ _ h => h) (Or.inl ⟨by rfl, ?_⟩) ?_
        rotate_left
        · intro w; go_simp; try with_reducible rfl
        rotate_left
        simp [Act.put]
        refine wpAny_take (i := 5) (v := ?_) rfl (by kernel_rfl) (by kernel_rfl) (by kernel_rfl) (fun _ _ _ h => h) (Or.inl ⟨by rfl, ?_⟩) ?_
        rotate_left
        · intro w; go_simp; try with_reducible rfl
        rotate_left
        simp [Act.put]
        refine wpAny_take (i := 6) (v := ?_) rfl (by kernel_rfl) (by kernel_rfl) (by kernel_rfl) (fun _ _ _ h => h) (Or.inl ⟨by rfl, ?_⟩) ?_
        rotate_left
        · intro w; go_simp; try with_reducible rfl
        rotate_left
        simp [Act.put]
        refine wpAny_take (i := 7) (v := ?_) rfl (by kernel_rfl) (by kernel_rfl) (by kernel_rfl) (fun _ _ _ h => h) (Or.inl ⟨by rfl, ?_⟩) ?_
        rotate_left
        · intro w; go_simp; try with_reducible rfl
        rotate_left
        simp [Act.put]
        refine wpAny_take (i := 8) (v := ?_) rfl (by kernel_rfl) (by kernel_rfl) (by kernel_rfl) (fun _ _ _ h => h) (Or.inl ⟨by rfl, ?_⟩) ?_
        rotate_left
        · intro w; go_simp; try with_reducible rfl
        rotate_left
        simp [Act.put]
        refine wpAny_take (i := 9) (v := ?_) rfl (by kernel_rfl) (by kernel_rfl) (by kernel_rfl) (fun _ _ _ h => h) (Or.inl ⟨by rfl, ?_⟩) ?_
        rotate_left
        · intro w; go_simp; try with_reducible rfl
        rotate_left
        simp [Act.put]
        refine wpAny_take (i := 10) (v := ?_) rfl (by kernel_rfl) (by kernel_rfl) (by kernel_rfl) (fun _ _ _ h => h) (Or.inl ⟨by rfl, ?_⟩) ?_
        rotate_left
        · intro w; go_simp; try with_reducible rfl
        rotate_left
        simp [Act.put]
        refine wpAny_take (i := 11) (v := ?_) rfl (by kernel_rfl) (by kernel_rfl) (by kernel_rfl) (fun _ _ _ h => h) (Or.inl ⟨by rfl, ?_⟩) ?_
        rotate_left
        · intro w; go_simp; try with_reducible rfl
        rotate_left
        simp [Act.put]
        refine wpAny_ready (rs := [1, 12]) (by kernel_rfl) (by simp) ?_
        refine AllReady.cons rfl (fun K hK => ?_) ?_
        · go_simp
          refine hK _ _ ?_
          clear hK K
          try simp [Act.put]
          refine wpAny_ready (rs := [12]) (by kernel_rfl) (by simp) ?_
          refine AllReady.cons rfl (fun K hK => ?_) ?_
          · go_simp
            refine hK _ _ ?_
            clear hK K
            try simp [Act.put]
            refine wpAny_ready (rs := [13]) (by kernel_rfl) (by simp) ?_
            refine AllReady.cons rfl (fun K hK => ?_) ?_
            · go_simp
              refine hK _ _ ?_
              clear hK K
              try simp [Act.put]
              refine wpAny_ready (rs := [14]) (by kernel_rfl) (by simp) ?_
              refine AllReady.cons rfl (fun K hK => ?_) ?_
              · go_simp
                refine hK _ _ ?_
                clear hK K
                try simp [Act.put]
                refine wpAny_done (by kernel_rfl) ?_ _
                go_wp2
                refine six_gen (G := fun Y => bodyPost _ _ _ _ _ Y) HZ.out ?_
                intro Y hz hkY
                refine bodyPost_ret (results_tct rfl _ _ w.heap.size _ _ _ _ rfl hz Tryd.underlying30 rfl rsSize) rfl ?_
                refine BegQ.cast (HEE.out _ hkY) ?_
                first | rfl | simp
              exact AllReady.nil
            exact AllReady.nil
          exact AllReady.nil
        refine AllReady.cons rfl (fun K hK => ?_) ?_
        · go_simp
          refine hK _ _ ?_
          clear hK K
          try simp [Act.put]
          refine wpAny_ready (rs := [1]) (by kernel_rfl) (by simp) ?_
          refine AllReady.cons rfl (fun K hK => ?_) ?_
          · go_simp
            refine hK _ _ ?_
            clear hK K
            try simp [Act.put]
            refine wpAny_ready (rs := [13]) (by kernel_rfl) (by simp) ?_
            refine AllReady.cons rfl (fun K hK => ?_) ?_
            · go_simp
              refine hK _ _ ?_
              clear hK K
              try simp [Act.put]
              refine wpAny_ready (rs := [14]) (by kernel_rfl) (by simp) ?_
              refine AllReady.cons rfl (fun K hK => ?_) ?_
              · go_simp
                refine hK _ _ ?_
                clear hK K
                try simp [Act.put]
                refine wpAny_done (by kernel_rfl) ?_ _
                go_wp2
                refine six_gen (G := fun Y => bodyPost _ _ _ _ _ Y) HZ.out ?_
                intro Y hz hkY
                refine bodyPost_ret (results_tct rfl _ _ w.heap.size _ _ _ _ rfl hz Tryd.underlying30 rfl rsSize) rfl ?_
                refine BegQ.cast (HEE.out _ hkY) ?_
                first | rfl | simp
              exact AllReady.nil
            exact AllReady.nil
          exact AllReady.nil
        exact AllReady.nil
end Go.Proofs.YtomeoklhjdgaoaaDoor
