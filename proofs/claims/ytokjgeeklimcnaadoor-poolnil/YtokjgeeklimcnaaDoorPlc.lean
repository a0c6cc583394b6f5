/-
  The least place that was given back; Take.
-/
import Derived.Test.YtokjgeeklimcnaaDoorPlb
namespace Go.Proofs.YtokjgeeklimcnaaDoor
open Go.RowKit

theorem and_pred (x : Nat) (hx : x < 18446744073709551616) (h0 : x ≠ 0) : bits .and .u64 (x : Int) ((x : Int) - 1) = ((x &&& (x - 1) : Nat) : Int) := by
  have e : (x : Int) - 1 = ((x - 1 : Nat) : Int) := by omega
  rw [e, bits_and_u64_nat _ _ hx (by omega)]

set_option maxHeartbeats 1000000 in
set_option maxRecDepth 100000 in
theorem least_any (b N : Nat) (vt vw : Value) (xs : List Int) (ws : List Nat) (c f : Nat) (w : World) (h : PlM w b N vt vw xs ws c f) (hI : Inv xs.length ws c f) (hc : 0 < c) (hc2 : c ≤ 65536) (hl : ws.length ≤ 1024) (hT : Tab w) (hpos : ∀ k, mfoot b vw k → k ≠ 0) :
    Calls Tryd.prog 34 #[.pointer (some ⟨b, 2, none⟩)] w fun e w' => ∃ q : Nat, (∀ k, k < q → ws.getD k 0 = 0) ∧ q < ws.length ∧ ws.getD q 0 ≠ 0 ∧
      e = .returned (.int .i64 ((q * 64 + Lib.ctz 64 (ws.getD q 0) : Nat) : Int)) ∧ PlM w' b N vt vw xs (ws.set q (ws.getD q 0 &&& (ws.getD q 0 - 1))) (c - 1) q ∧ Kept (mfoot b vw) w w' := by
  obtain ⟨q0, hq0, hq1⟩ := hI.some_word hc
  have hfq : f ≤ q0 := by
    apply Classical.byContradiction
    intro hn
    exact hq1 (hI.first q0 (by omega))
  have hws := hI.lt
  have hfirst := hI.first
  clear hI
  go_enter Tryd.func34, Tryd.ntmps34
  go_wp2
  go_loopw [4] (fun _ wr => ∃ f' : Nat, PlM wr b N vt vw xs ws c f' ∧ Kept (mfoot b vw) w wr ∧ (∀ k, k < f' → ws.getD k 0 = 0) ∧ f' ≤ q0) (fun _ wr => q0 - fstAt wr b)
  case atStart => exact ⟨f, h, Kept.refl _ _, hfirst, hfq⟩
  case round =>
    obtain ⟨q, hM, hK, hz, hqq⟩ := hrel
    obtain ⟨c0, c1, c2, c3, c4⟩ := hM.cells
    have hf4 := hM.frozen 4
    have hf3 := hM.frozen 3
    have hfs := hM.fstAt
    obtain ⟨g, cap, rfl, hcw⟩ := hM.word q (by omega)
    have hx := getD_lt hws q
    have hq2 : q < ws.length := by omega
    by_cases h0 : ws.getD q 0 = 0
    · have hne : q ≠ q0 := fun e => hq1 (by rw [← e]; exact h0)
      have hS := hM.setF (q + 1)
      rw [h0] at hcw
      have HS : Hid (PlM (wr.setCell ⟨b, 4, none⟩ (.int .i64 ((q + 1 : Nat) : Int))) b N vt (.slice (some ⟨g, 0, none⟩) ws.length cap) xs ws c (q + 1)) := hS
      have HZ : Hid (∀ k, k < q + 1 → ws.getD k 0 = 0) := fun k hk => by
        by_cases e : k = q
        · rw [e]; exact h0
        · exact hz k (by omega)
      clear hS hz hM h0
      go_wp2_with fail
      go_quiet (fail)
      go_wp2
      go_roundw
      case rel => exact ⟨q + 1, ⟨HS.out.blk, HS.out.th, HS.out.wd⟩, (hK.drewN nq).setCell (p := ⟨b, 4, none⟩) (fun _ => .inl rfl) _, HZ.out, by omega⟩
      case measure =>
        have e1 := HS.out.fstAt
        have e2 : fstAt ((wr.drewN nq).setCell ⟨b, 4, none⟩ (.int .i64 ((q + 1 : Nat) : Int))) b = q + 1 := e1
        rw [hfs]
        exact Nat.lt_of_le_of_lt (Nat.le_of_eq (congrArg (fun t => q0 - t) e2)) (by omega)
    · have hgb : g ≠ b := fun e => hM.ne_w (by rw [e]; rfl)
      have hbl := lt_of_heap hM.blk
      have hfg : wr.frozen? ⟨g, q, none⟩ = false := hM.wd.frozenAt _
      have hand := and_pred _ hx h0
      have hW := (hM.setWord q (ws.getD q 0 &&& (ws.getD q 0 - 1))).setC (c - 1)
      have HW : Hid (PlM ((wr.setCell ⟨g, q, none⟩ (.int .u64 ((ws.getD q 0 &&& (ws.getD q 0 - 1) : Nat) : Int))).setCell ⟨b, 3, none⟩ (.int .i64 ((c - 1 : Nat) : Int))) b N vt (.slice (some ⟨g, 0, none⟩) ws.length cap) xs (ws.set q (ws.getD q 0 &&& (ws.getD q 0 - 1))) (c - 1) q) := hW
      have HK : Hid (∀ u u', Kept (mfoot b (.slice (some ⟨g, 0, none⟩) ws.length cap)) w ((wr.setCell ⟨g, q, none⟩ u).setCell ⟨b, 3, none⟩ u')) := fun u u' => (hK.setCell (p := ⟨g, q, none⟩) (fun _ => .inr rfl) u).setCell (p := ⟨b, 3, none⟩) (fun _ => .inl rfl) u'
      have HTab : Hid (∀ W, Kept (mfoot b (.slice (some ⟨g, 0, none⟩) ws.length cap)) w W → Tab W) := fun W hk => hT.kept hk (fun e => hpos _ e rfl)
      have HZ : Hid (∀ k, k < q → ws.getD k 0 = 0) := hz
      have HTz : Hid (∀ W, Tab W → Calls Tryd.prog 44 #[.int .u64 ((ws.getD q 0 : Nat) : Int)] W fun e w' => e = .returned (.int .i64 (Lib.ctz 64 (ws.getD q 0) : Int)) ∧ w' = W) := fun W hW => tz_any _ hx W hW
      have hct : Lib.ctz 64 (ws.getD q 0) ≤ 64 := by
        obtain ⟨m, hm, hk⟩ := Lib.ctzFrom_spec 64 (ws.getD q 0) (by omega) hx
        unfold Lib.ctz
        rw [if_neg h0]
        omega
      clear hW hK hT hz hM hfirst hws hfq
      have eb : ∀ u i, (wr.setCell ⟨g, q, none⟩ u).cell? ⟨b, i, none⟩ = wr.cell? ⟨b, i, none⟩ := fun u i => (kept_set wr g q u).cell (p := ⟨b, i, none⟩) hbl (fun e => hgb e.symm)
      have ef : ∀ u i, (wr.setCell ⟨g, q, none⟩ u).frozen? ⟨b, i, none⟩ = wr.frozen? ⟨b, i, none⟩ := fun u i => (kept_set wr g q u).frozen (p := ⟨b, i, none⟩) hbl (fun e => hgb e.symm)
      generalize hY : ws.getD q 0 &&& (ws.getD q 0 - 1) = y at *
      generalize hCt : Lib.ctz 64 (ws.getD q 0) = z at *
      have HCt : Hid (Lib.ctz 64 (ws.getD q 0) = z) := hCt
      clear hCt
      generalize hX : ws.getD q 0 = x at *
      have HX : Hid (ws.getD q 0 = x) := hX
      have HY : Hid (x &&& (x - 1) = y) := hY
      have HCt2 : Hid (∀ q', q' = q → Lib.ctz 64 (ws.getD q' 0) = z) := fun q' e => by rw [e, hX]; exact HCt.out
      clear hX hY HCt
      go_wp2_with fail
      go_quiet (fail)
      generalize nq = n1
      go_wp2_with fail
      go_quiet (fail)
      generalize nq = n2
      go_wp2_with fail
      go_region
      go_wp2_with fail
      have e1 : (c : Int) - 1 = ((c - 1 : Nat) : Int) := by omega
      rw [e1]
      generalize n1 + n2 + 1 = m
      have hPX : PlM (((wr.drewN m).setCell ⟨g, q, none⟩ (.int .u64 (y : Int))).setCell ⟨b, 3, none⟩ (.int .i64 ((c - 1 : Nat) : Int))) b N vt (.slice (some ⟨g, 0, none⟩) ws.length cap) xs (ws.set q y) (c - 1) q := ⟨HW.out.blk, HW.out.th, HW.out.wd⟩
      have hKX : Kept (mfoot b (.slice (some ⟨g, 0, none⟩) ws.length cap)) w (((wr.drewN m).setCell ⟨g, q, none⟩ (.int .u64 (y : Int))).setCell ⟨b, 3, none⟩ (.int .i64 ((c - 1 : Nat) : Int))) := have hk0 := HK.out (.int .u64 (y : Int)) (.int .i64 ((c - 1 : Nat) : Int)); ⟨hk0.os, hk0.tape, hk0.output, hk0.size, hk0.block⟩
      generalize (((wr.drewN m).setCell ⟨g, q, none⟩ (.int .u64 (y : Int))).setCell ⟨b, 3, none⟩ (.int .i64 ((c - 1 : Nat) : Int))) = X at *
      have hTX : ∀ n, Tab (X.drewN n) := fun n => HTab.out _ (hKX.drewN n)
      have HTX := show Hid _ from hTX
      obtain ⟨d0, d1, d2, d3, d4⟩ := hPX.cells
      have HPX := show Hid _ from (fun (_ : Unit) => hPX)
      clear hPX hTX
      go_quiet ((go_at_call 44; exact Calls.quiet_of_same (HTz.out _ (HTX.out _))))
      go_wp2
      go_ret
      refine ⟨q, HZ.out, hq2, ?_, ?_, ?_, hKX.drewN nq⟩
      · rw [HX.out]; exact h0
      · rw [HCt2.out q rfl]
        exact ret_int (by omega)
      · rw [HX.out, HY.out]
        have h' := HPX.out ()
        exact ⟨h'.blk, h'.th, h'.wd⟩

theorem PoolAt.tab {w : World} {F : Nat → Prop} {b : Nat} {l : List (Option Int)} (h : PoolAt w F b l) (hT : Tab w) {w' : World} (hk : Kept F w w') : Tab w' := hT.kept hk (fun e => h.pos e rfl)

set_option maxHeartbeats 1000000 in
set_option maxRecDepth 100000 in
theorem take_any (F : Nat → Prop) (b : Nat) (l : List (Option Int)) (v : Int) (w : World) (h : PoolAt w F b l) (hT : Tab w) :
    Calls Tryd.prog 15 #[.pointer (some ⟨b, 0, none⟩), .int .i64 v] w fun e w' => e = .returned (.tuple (if fr l < l.length then #[.int .i64 (fr l : Int), .int .i64 0] else #[.int .i64 (-1), .int .i64 50])) ∧
      ∃ F', PoolAt w' F' b (if fr l < l.length then l.set (fr l) (some v) else l) ∧ Kept F w w' ∧ ∀ k, k < w.heap.size → F' k → F k := by
  have hul := used_le l
  have hfr := fun (_ : Unit) => free_any F b l w h
  have HFr := show Hid _ from hfr
  clear hfr
  by_cases hu : used l = l.length
  · have e : ¬ fr l < l.length := by rw [fr_full hu]; omega
    rw [if_neg e, if_neg e]
    clear e
    rw [hu, Nat.sub_self] at HFr
    have HP := show Hid _ from (fun n => h.drewN n)
    clear h hT hul hu
    go_enter Tryd.func15, Tryd.ntmps15
    go_wp2_with fail
    refine (HFr.out ()).mono ?_
    rintro e w' ⟨rfl, n, rfl⟩
    go_wp2
    go_ret2
    exact ⟨rfl, F, HP.out n, (Kept.refl _ _).drewN n, fun _ _ e => e⟩
  · have hlt : used l < l.length := by omega
    have e := fr_lt hlt
    rw [if_pos e, if_pos e]
    obtain ⟨d, hd⟩ : ∃ d, l.length - used l = d + 1 := ⟨l.length - used l - 1, by omega⟩
    rw [hd] at HFr
    have hd2 : d < 65536 := by have := h.len; omega
    obtain ⟨vt, vw, xs, ws, c, f, h1, h2, h3, h4⟩ := h
    have hle := h1.le
    have hhi := h1.hi
    have hcl := h1.inv.cle
    have hul2 : used l + c = xs.length := by rw [← h2]; exact used_pl h1.inv rfl h1.le
    obtain ⟨c0, c1, c2, c3, c4⟩ := h1.cells
    by_cases hc : 0 < c
    · have HL := show Hid _ from (fun n => least_any b l.length vt vw xs ws c f (w.drewN n) (h1.drewN n).toPlM h1.inv hc (by omega) h1.wl hT (fun k hk => h4 k (by rw [h3]; rcases hk with e | e; exact .inl e; exact .inr (.inr e))))
      have HQ : Hid (∀ (w' : World) (q r : Nat) (Q : ∀ k, k < q → ws.getD k 0 = 0) (h5 : q < ws.length) (h6 : ws.getD q 0 ≠ 0) (h7 : q * 64 + Lib.ctz 64 (ws.getD q 0) = r) (h8 : PlM w' b l.length vt vw xs (ws.set q (ws.getD q 0 &&& (ws.getD q 0 - 1))) (c - 1) q) (h9 : Kept (mfoot b vw) w w'),
          fr l = r ∧ ∃ g cap, w'.cell? ⟨b, 1, none⟩ = some (.slice (some ⟨g, 0, none⟩) xs.length cap) ∧ r < xs.length ∧ (∃ u, w'.cell? ⟨g, r, none⟩ = some (.int .i64 u)) ∧ w'.frozen? ⟨g, r, none⟩ = false ∧
            PoolAt (w'.setCell ⟨g, r, none⟩ (.int .i64 v)) F b (l.set r (some v)) ∧ Kept F w (w'.setCell ⟨g, r, none⟩ (.int .i64 v))) := by
        intro w' q r Q h5 h6 h7 h8 h9
        subst h7
        obtain ⟨p1, p2, p3, p4, p5, p6, p7⟩ := h1.inv.least q Q h5 h6
        obtain ⟨q1, q2⟩ := pl_back (N := l.length) v h1.inv rfl hle p1 p2 p6
        rw [h2] at q1 q2
        obtain ⟨g, cap, hv, hc⟩ := h8.thing _ p3
        have hc1 := h8.cells.2.1
        subst hv
        have hS := h8.setThing (q * 64 + Lib.ctz 64 (ws.getD q 0)) v
        refine ⟨q1, g, cap, hc1, p3, ⟨_, hc⟩, h8.th.frozenAt _, ?_, ?_⟩
        · refine ⟨.slice (some ⟨g, 0, none⟩) xs.length cap, vw, xs.set (q * 64 + Lib.ctz 64 (ws.getD q 0)) v, ws.set q (ws.getD q 0 &&& (ws.getD q 0 - 1)), c - 1, q, ⟨?_, ?_, ?_, ?_, ?_, ?_⟩, ?_, h3, h4⟩
          · rw [show (l.set (q * 64 + Lib.ctz 64 (ws.getD q 0)) (some v)).length = l.length from List.length_set]; exact hS
          · rw [List.length_set]; exact p5
          · rw [List.length_set, List.length_set]; exact hle
          · rw [List.length_set]; exact h1.lo
          · rw [List.length_set]; exact h1.hi
          · rw [List.length_set]; exact h1.wl
          · rw [List.length_set]; exact q2
        · refine (h9.mono (S' := F) (fun i _ e => ?_)).setCell (p := ⟨g, q * 64 + Lib.ctz 64 (ws.getD q 0), none⟩) (fun _ => ?_) _
          · rw [h3]; rcases e with e | e; exact .inl e; exact .inr (.inr e)
          · rw [h3]; exact .inr (.inl rfl)
      have hc9 : c ≤ 65536 := by omega
      clear h1 h2 h3 h4 hul2 hcl hle hlt hu hul e hd hT
      go_enter Tryd.func15, Tryd.ntmps15
      go_wp2_with fail
      refine (HFr.out ()).mono ?_
      rintro e w' ⟨rfl, n, rfl⟩
      go_wp2_with fail
      refine (HL.out n).mono ?_
      rintro e w2 ⟨q, q1, q2, q3, rfl, q5, q6⟩
      obtain ⟨r, hr⟩ : ∃ r, q * 64 + Lib.ctz 64 (ws.getD q 0) = r := ⟨_, rfl⟩
      obtain ⟨s1, g, cap, s2, s3, ⟨u, s4⟩, s5, s6, s7⟩ := HQ.out w2 q r q1 q2 q3 hr q5 ⟨q6.os, q6.tape, q6.output, q6.size, q6.block⟩
      rw [hr]
      have HS1 : Hid (fr l = r) := s1
      have HS6 := show Hid _ from (fun (_ : Unit) => s6)
      have HS7 := show Hid _ from (fun (_ : Unit) => s7)
      clear s6 s7 q1 q2 q3 q5 q6 hr s1
      go_wp2
      go_ret2
      rw [HS1.out]
      exact ⟨rfl, F, HS6.out (), HS7.out (), fun _ _ e => e⟩
    · obtain rfl : c = 0 := by omega
      obtain ⟨i0, hi, hz0, hz1, hz2⟩ := info_parts Tryd.infoI
      obtain ⟨p1, p2⟩ := pl_new (N := l.length) v h1.inv rfl (by omega)
      rw [h2] at p1 p2
      rw [p1]
      have hown := h1.th
      have hbl := lt_of_heap h1.blk
      have hap := h1.ne_t
      have hf1 := h1.frozen 1
      have hn1 : xs.length < 65536 := by omega
      have HQ : Hid (∀ (w0 w1 : World) (g cap : Nat), Fresh w w0 → w0.grownBy w1 vt.ownBlock → w1.ownsRow 0 3 1 (.slice (some ⟨g, 0, none⟩) (xs.length + 1) cap) (xs.length + 1) (iV xs ++ [.int .i64 v]) → (vt.ownBlock = some g ∨ w.heap.size ≤ g) →
          ∃ F', PoolAt (w1.setCell ⟨b, 1, none⟩ (.slice (some ⟨g, 0, none⟩) (xs.length + 1) cap)) F' b (l.set xs.length (some v)) ∧ Kept F w (w1.setCell ⟨b, 1, none⟩ (.slice (some ⟨g, 0, none⟩) (xs.length + 1) cap)) ∧ ∀ k, k < w.heap.size → F' k → F k) := by
        intro w0 w1 g cap q1 q2 q3 q4
        obtain ⟨r1, r2, r3⟩ := h1.toPlM.growT (ys := xs ++ [v]) q1 q2 (by rw [show iV (xs ++ [v]) = iV xs ++ [.int .i64 v] by simp [iV]]; exact q3) (by simp) q4
        have hFF : ∀ j, j < w.heap.size → foot b (.slice (some ⟨g, 0, none⟩) (xs.length + 1) cap) vw j → F j := by
          intro j hj hf
          rw [h3]
          rcases hf with e | e | e
          · exact .inl e
          · exact .inr (.inl (r3.old hj e))
          · exact .inr (.inr e)
        refine ⟨foot b (.slice (some ⟨g, 0, none⟩) (xs.length + 1) cap) vw, ⟨.slice (some ⟨g, 0, none⟩) (xs.length + 1) cap, vw, xs ++ [v], ws, 0, f, ⟨?_, ?_, ?_, ?_, ?_, h1.wl⟩, ?_, rfl, ?_⟩, r2.mono (S' := F) (fun i _ e => ?_), hFF⟩
        · rw [show (l.set xs.length (some v)).length = l.length from List.length_set]; exact r1
        · rw [List.length_append]; exact h1.inv.more
        · rw [List.length_set]; simp; omega
        · rw [List.length_set]; exact h1.lo
        · rw [List.length_set]; exact h1.hi
        · rw [List.length_set]; exact p2
        · intro j hj
          by_cases hjw : j < w.heap.size
          · exact h4 j (hFF j hjw hj)
          · omega
        · rw [h3]; rcases e with e | e; exact .inl e; exact .inr (.inl e)
      obtain ⟨ao, cap1, hv1⟩ := slice_shape h1.th
      clear h1 h2 h3 h4 hul2 hcl hle hlt hu hul e hd hT p1 p2
      subst hv1
      go_enter Tryd.func15, Tryd.ntmps15
      go_wp2_with fail
      refine (HFr.out ()).mono ?_
      rintro e w' ⟨rfl, n, hX⟩
      have hX0 : Fresh w w' := by rw [hX]; exact (Kept.refl _ _).drewN n
      have hown' : w'.ownsRow 0 3 1 (.slice ao xs.length cap1) xs.length (iV xs) := by rw [hX]; exact hown
      have hbl' : b < w'.heap.size := by rw [hX]; exact hbl
      have HSZ : Hid (w'.heap.size = w.heap.size) := by rw [hX]; rfl
      have c1' : w'.cell? ⟨b, 1, none⟩ = some (.slice ao xs.length cap1) := by rw [hX]; exact c1
      have c3' : w'.cell? ⟨b, 3, none⟩ = some (.int .i64 0) := by rw [hX]; exact c3
      have hf1' : w'.frozen? ⟨b, 1, none⟩ = false := by rw [hX]; exact hf1
      have HQ2 : Hid _ := fun w1 g cap a1 a2 a3 => HQ.out (w'.alloc (.cells #[.int .i64 v] 3)) w1 g cap (hX0.alloc _) a1 a2 a3
      clear hX hown hbl c0 c1 c2 c3 c4 hf1 HQ hX0
      go_wp2_with (at_builtin; refine wpList_append_lies _ rfl _ _ _ rfl 0 3 i0 _ 1 8 Tryd.underlying36 hi hz0 hz1 hz2 rfl (by omega) _ _ _ rfl (hown'.alloc _) ⟨w'.heap.size, 0, none⟩ 1 1 [.int .i64 v] rfl rfl (World.news_of_block (cs := #[.int .i64 v]) (t := 3) (fr := (0, 0)) (heap_alloc_new w' _)) (by simp [Value.oneCell']) (by omega) (by unfold maxLen; omega) (by omega) (by omega) (w'.heap.size + 1) (by simp) ?_; intro g cap w1 hown1 hgrow hat hlt2; have hc1 := (grown_cell (w := w') (i := 1) hgrow rfl hbl' hap).trans c1'; have hf1w := (grown_frozen (w := w') (i := 1) hgrow rfl hbl' hap).trans hf1'; have HZ := show Hid _ from HQ2.out w1 g cap hgrow hown1 (by rcases hat with e | e; exact .inl e; exact .inr (by have := HSZ.out; omega)); clear hgrow hown1 hat HQ2)
      go_ret2
      exact ⟨rfl, HZ.out⟩
end Go.Proofs.YtokjgeeklimcnaaDoor
