/-
  For all stop texts, every text and all cuts the statement StreamCuts answers true: how a text is cut has no part in what comes out.
-/
import Derived.Test.YtkkaaoflolgaiaaDoorSts
import Derived.Test.YtkkaaoflolgaiaaDoorSty
import Derived.Test.YtkkaaoflolgaiaaDoorStn
import Derived.Lib.AppendZeros
namespace Go.Proofs.YtkkaaoflolgaiaaDoor.SCuts
open Go.ChangeShapes Go.WideShapes Go.ChangeAt Go.RowKit Go.Lib Go.Maps

theorem CuI.len {T : List (List UInt8)} {s : List UInt8} {F : Nat → Prop} {W : World} {b : Nat} {fed r o : List UInt8} (h : CuI T s F W b fed o) (hs : s = fed ++ r) : o.length ≤ 3 * s.length := by
  rcases h with ⟨_, h2, _⟩ | ⟨_, h2, _⟩
  · have h3 := clL_le (goF T fed)
    have h4 : (goF T fed).length ≤ fed.length := by unfold goF; rw [List.length_take]; omega
    have h5 : fed.length + r.length = s.length := by rw [hs, List.length_append]
    rw [h2]; omega
  · have h3 := clL_le (cuS T s)
    have h4 := cuS_le T s
    rw [h2]; omega
theorem own_ge {w : World} {base k : Nat} {e : TypeId} {v : Value} {n q : Nat} {xs : List Value} (h : w.ownsRow base e k v n xs) (hk : v.ownBlock = some q) : base ≤ q := by
  rcases h.2 with ⟨rfl, _⟩ | ⟨g', cap', cur, hv, hb, _⟩
  · simp [Value.ownBlock] at hk
  · rw [hv] at hk; simp [Value.ownBlock] at hk; omega

set_option maxHeartbeats 8000000 in
set_option maxRecDepth 100000 in
theorem walk {p q : Nat → Prop} (w : World) (v cv : Value) (T : List (List UInt8)) (s : List UInt8) (L : List Int) (hR : TxR p w v T) (hl : s.length ≤ 1048576) (hm : TbM w) (hL : InR q w cv L) (hLl : L.length ≤ 1048576) :
    Calls Tryd.prog 7 #[v, sV s, cv] w fun e w' => e = .returned (.bool true) ∧ Fresh w w' := by
  have HA := show Hid _ from awake_any w hm
  have HW : Hid (∀ W, Fresh w W → Calls Tryd.prog 16 #[v, sV s] W fun e w' => e = .returned (.tuple #[sV (whO T s), zV (whP T s), zV (chkF T)]) ∧ Fresh W w') := fun W hk => Whole_any T s v W (by omega) (hR.fresh hk) (hm.fresh hk)
  have HN : Hid (∀ W, Fresh w W → Calls Tryd.prog 19 #[v] W fun e w' => Fresh W w' ∧ ((chkF T ≠ 0 ∧ e = .returned (.tuple #[.pointer none, zV (chkF T)])) ∨
      (chkF T = 0 ∧ ∃ b F, e = .returned (.tuple #[.pointer (some ⟨b, 0, none⟩), zV 0]) ∧ StM F w' b T [] [] false false 0 ∧ Nw0 W F ∧ ∀ q, F q → q < w'.heap.size))) := fun W hk => New_any T v W (hR.fresh hk) (hm.fresh hk)
  have HK : Hid (∀ W, Fresh w W → Calls Tryd.prog 17 #[v] W fun e w' => e = .returned (zV (chkF T)) ∧ Fresh W w') := fun W hk => refCheck_any T v W (hR.fresh hk)
  have HCl : Hid (∀ t W, t.length ≤ 50331648 → clL t = t → Calls Tryd.prog 10 #[sV t] W fun e w' => e = .returned (sV t) ∧ Fresh W w') := fun t W h h2 => by
    have := Clean_any t W (by omega)
    rw [h2] at this
    exact this
  have HT : Hid (∀ W, Fresh w W → TbM W) := fun W hk => hm.fresh hk
  have HO : Hid (chkF T = 0 → whO T s = clL (cuS T s) ∧ whP T s = cuM T s ∧ GdT T) := fun h => ⟨by unfold whO; rw [if_pos h], by unfold whP; rw [if_pos h], (chk_ok h).2⟩
  have HTw : Hid (∀ W, Fresh w W → ∃ t1 W1 t2 W2, (∃ a n c, t1 = .slice a n c) ∧ (Builtin.append_ #[47, 47] 47 #[.slice (some ⟨W.heap.size, 0, none⟩) 0 0, cv]).run Tryd.prog (W.alloc (.cells #[] 3)) = .ok t1 W1 ∧
      (Builtin.append_ #[47, 47] 47 #[t1, .slice (some ⟨W1.heap.size, 0, none⟩) 1 1]).run Tryd.prog (W1.alloc (.cells #[zV (-1)] 3)) = .ok t2 W2 ∧ Fresh W W2 ∧ InR (fun b => W.heap.size ≤ b ∧ b < W2.heap.size) W2 t2 (L ++ [-1])) := fun W hk => by
    have hF : Fresh W (W.alloc (.cells #[] 3)) := (Kept.refl _ W).alloc _
    obtain ⟨t1, W1, g1, g2, g3⟩ := twinI 47 (W.alloc (.cells #[] 3)) W.heap.size (.slice (some ⟨W.heap.size, 0, none⟩) 0 0) (own_empty W _ (Nat.le_refl _) _) hF.size cv L _ ((hL.fresh hk).fresh hF)
    have hF1 : Fresh W W1 := hF.grown g3 (fun k hk e => by simp [Value.ownBlock] at e; omega)
    obtain ⟨t2, W2, k1, k2, k3⟩ := pushI W1 W.heap.size t1 L (-1) g2 (by omega) hF1.size
    obtain ⟨a, c, hsh⟩ := ownsRow_shape g2
    have hI4 : ∀ i, i < L.length → I64 (gI L i) := by obtain ⟨_, _, _, _, _, h4, _⟩ := hL; exact h4
    refine ⟨t1, W1, t2, W2, ⟨a, _, c, hsh⟩, g1, k1, hF1.trans k3 (fun i hi e => by have := own_ge g2 e; omega), inr_of_own k2 (fun i hi => ?_) (by rw [List.length_append]; simp; omega)⟩
    by_cases hil : i < L.length
    · have := hI4 i hil
      rw [gI, List.getD_eq_getElem?_getD, List.getElem?_append_left hil, ← List.getD_eq_getElem?_getD]
      exact this
    · have hie : i = L.length := by rw [List.length_append] at hi; simp at hi; omega
      rw [gI, List.getD_eq_getElem?_getD, hie, List.getElem?_append_right (Nat.le_refl _), Nat.sub_self]
      exact ⟨by decide, by decide⟩
  obtain ⟨ao, cap, rfl⟩ := hR.shape
  obtain ⟨co, cc, rfl, _⟩ := hL
  clear hR hm
  have hss : (⟨s.toArray⟩ : ByteArray).size = s.length := len_l s
  generalize whO T s = O at *
  generalize whP T s = P at *
  generalize hTl : T.length = tn at *
  clear hTl
  by_cases hc : chkF T = 0
  · obtain ⟨o1, o2, hG⟩ := HO.out hc
    have HO1 : Hid (O = clL (cuS T s) ∧ P = cuM T s) := ⟨o1, o2⟩
    have HG : Hid (GdT T) := hG
    rw [hc] at HW HK
    have HC : Hid (chkF T = 0) := hc
    clear HO o1 o2 hG hc
    go_enter Tryd.func7, Tryd.ntmps7
    go_wp2_with fail
    refine Calls.mono HA.out ?_
    rintro e' W1 ⟨rfl, hF1⟩
    have HF1 : Hid (Fresh w W1) := hF1
    have HW1 := show Hid _ from HW.out W1 hF1
    clear HA hF1 HW
    go_wp2_with fail
    refine Calls.mono HW1.out ?_
    rintro e' W2 ⟨rfl, hF2⟩
    have HF2 : Hid (Fresh w W2) := HF1.out.trans hF2 (fun _ _ e => e)
    have HN2 := show Hid _ from HN.out W2 HF2.out
    clear HW1 hF2 HF1 HN
    go_wp2_with fail
    refine Calls.mono HN2.out ?_
    rintro e' W3 ⟨hF3, h | ⟨_, b, F, rfl, hS, hNw, hlt⟩⟩
    · exact absurd HC.out h.1
    have HF3 : Hid (Fresh w W3) := HF2.out.trans hF3 (fun _ _ e => e)
    have HNw : Hid (Nw0 w F) := fun q hq => Nat.le_trans HF2.out.size (hNw q hq)
    have HS : Hid (StM F W3 b T [] [] false false 0) := hS
    have HFl : Hid (∀ q, F q → q < W3.heap.size) := hlt
    have HK3 := show Hid _ from HK.out W3 HF3.out
    clear HN2 hF3 HF2 hS hNw hlt HK
    go_wp2_with fail
    refine Calls.mono HK3.out ?_
    rintro e' W4 ⟨rfl, hF4⟩
    have HF4 : Hid (Fresh w W4) := HF3.out.trans hF4 (fun _ _ e => e)
    have HS4 : Hid (StM F W4 b T [] [] false false 0) := HS.out.fresh hF4
    have HFl4 : Hid (∀ q, F q → q < W4.heap.size) := fun q hq => Nat.lt_of_lt_of_le (HFl.out q hq) hF4.size
    obtain ⟨t1, W5, t2, W6, ⟨a1, n1, c1, rfl⟩, hr1, hr2, hF6, hI6⟩ := HTw.out W4 HF4.out
    have HF6 : Hid (Fresh w W6) := HF4.out.trans hF6 (fun _ _ e => e)
    have HCu : Hid (CuI T s F W6 b [] []) := .inl ⟨fun n => bst_none.2 (fun j hj he => by have := he.room (HG.out.ne j hj); have h5 := List.length_pos_iff.2 (HG.out.ne j hj); have := he.1; simp at *; omega), rfl, HS4.out.fresh hF6⟩
    obtain ⟨ao6, cap6, rfl, _, _, hi64, _, hcell6⟩ := hI6
    obtain ⟨b6, off6, rfl, hb6, hb6l, hcells⟩ := hcell6 (by rw [List.length_append]; simp)
    have HB6 : Hid (¬ F b6 ∧ b6 < W6.heap.size) := ⟨fun h => by have := HFl4.out b6 h; omega, hb6l⟩
    have HI64 : Hid (∀ i, i < (L ++ [-1]).length → I64 (gI (L ++ [-1]) i)) := hi64
    have HCells : Hid (∀ i, i < (L ++ [-1]).length → W6.cell? ⟨b6, off6 + i, none⟩ = some (zV (gI (L ++ [-1]) i))) := hcells
    have HLast : Hid (∀ i, i + 1 = (L ++ [-1]).length → gI (L ++ [-1]) i = -1) := fun i hi => by
      rw [List.length_append] at hi
      have hil : i = L.length := by simp at hi; exact hi
      rw [gI, List.getD_eq_getElem?_getD, hil, List.getElem?_append_right (Nat.le_refl _), Nat.sub_self]
      rfl
    clear HK3 hF4 HF3 HS HFl HTw hF6 HS4 HFl4 hb6 hb6l hcells hi64 hcell6 HF4
    have hLcl : (L ++ [-1]).length ≤ 1048577 := by rw [List.length_append]; simp; omega
    have hLpos : 0 < (L ++ [-1]).length := by rw [List.length_append]; simp
    generalize L ++ [-1] = Lc at *
    generalize hLn : Lc.length = ln at *
    clear hLn
    go_wp2_with (at_builtin; first | (refine Lib.wpList_append_run _ rfl _ _ _ _ rfl _ _ rfl rfl _ _ hr1 ?_; clear hr1) | (refine Lib.wpList_append_run _ rfl _ _ _ _ rfl _ _ rfl rfl _ _ hr2 ?_; clear hr2))
    go_loopw [12, 13, 62] (fun ov rv iv wr => ∃ (i : Nat) (fed r o : List UInt8) (F : Nat → Prop), i ≤ ln ∧ iv = zV i ∧ ov = sV o ∧ rv = sV r ∧ Hid (s = fed ++ r) ∧ Hid (i = ln → r = []) ∧ Hid (CuI T s F wr b fed o) ∧ Hid (Nw0 w F) ∧ Hid (Fresh w wr) ∧ Hid (¬ F b6 ∧ b6 < wr.heap.size) ∧ Hid (∀ k, k < ln → wr.cell? ⟨b6, off6 + k, none⟩ = some (zV (gI Lc k)))) (fun _ _ iv _ => ln - (RowKit.intOf iv).toNat)
    case atStart => exact ⟨0, [], s, [], F, Nat.zero_le _, rfl, rfl, rfl, rfl, fun e => absurd e (by omega), HCu, HNw, HF6, HB6, HCells⟩
    case round =>
      obtain ⟨i, fed, r, o, F1, hi, rfl, rfl, rfl, Hs, Hend, HCu1, HNw1, HF, HB1, HCe⟩ := hrel
      clear HCu HNw HF6 HB6 HCells
      have hrl : r.length ≤ 1048576 := by have := congrArg List.length Hs.out; rw [List.length_append] at this; omega
      have hol : o.length ≤ 3145728 := by have := CuI.len HCu1.out Hs.out; omega
      have hrs : (⟨r.toArray⟩ : ByteArray).size = r.length := len_l r
      have hos : (⟨o.toArray⟩ : ByteArray).size = o.length := len_l o
      by_cases hlt : i < ln
      · have hlt' : (i : Int) < (ln : Int) := by omega
        have ci := HCe.out i hlt
        obtain ⟨hc1, hc2⟩ := HI64.out i hlt
        -- how many bytes this time
        have Hn : Hid (∃ n : Nat, n ≤ r.length ∧ (0 ≤ gI Lc i → gI Lc i % ((r.length : Int) + 1) = (n : Int)) ∧ (gI Lc i < 0 → n = r.length) ∧ (i + 1 = ln → n = r.length)) := by
          by_cases h0 : 0 ≤ gI Lc i
          · have e1 := Int.emod_nonneg (gI Lc i) (show (r.length : Int) + 1 ≠ 0 by omega)
            have e2 := Int.emod_lt_of_pos (gI Lc i) (show (0 : Int) < (r.length : Int) + 1 by omega)
            exact ⟨(gI Lc i % ((r.length : Int) + 1)).toNat, by omega, fun _ => by omega, fun h => by omega, fun h => by have := HLast.out i h; omega⟩
          · exact ⟨r.length, Nat.le_refl _, fun h => absurd h h0, fun _ => rfl, fun _ => rfl⟩
        obtain ⟨n, hn, hn1, hn2, hn3⟩ := Hn.out
        have hsl1 : ∀ w, (Instr.slice 9 (sV r) none (some (.int .i64 (n : Int))) none).run Tryd.prog w = .ok (sV (r.take n)) w := fun w => slice_to r n hn w
        have hsl2 : ∀ w, (Instr.slice 9 (sV r) (some (.int .i64 (n : Int))) none none).run Tryd.prog w = .ok (sV (r.drop n)) w := fun w => slice_from r n hn w
        have HFeed := show Hid _ from Feed_cu (n := n) HCu1.out Hs.out HG.out (HT.out wr HF.out) hl
        have Hs2 : Hid (s = (fed ++ r.take n) ++ r.drop n) := by show _ = _; rw [List.append_assoc, List.take_append_drop]; exact Hs.out
        have Hend2 : Hid (i + 1 = ln → r.drop n = []) := fun h => by rw [hn3 h]; exact List.drop_length
        have hcase : (0 ≤ gI Lc i ∧ gI Lc i % ((r.length : Int) + 1) = (n : Int)) ∨ (gI Lc i < 0 ∧ n = r.length) := by
          by_cases h0 : 0 ≤ gI Lc i
          · exact .inl ⟨h0, hn1 h0⟩
          · exact .inr ⟨by omega, hn2 (by omega)⟩
        clear Hn hn1 hn2 hn3 Hs Hend HCu1
        generalize r.drop n = r2 at *
        generalize r.take n = r1 at *
        generalize hgc : gI Lc i = c at *
        clear hgc
        have HBody : Hid (∀ (W : World), True) := fun _ => trivial
        rcases hcase with ⟨h0, hm⟩ | ⟨h0, hm⟩
        all_goals
          first | (subst hm; clear hn) | (have hrl1 : (0 : Int) < (r.length : Int) + 1 := by omega)
          go_wp2_with fail
          refine Calls.mono HFeed.out ?_
          rintro e' W7 ⟨pc, F2, rfl, hcu, hmv, hcl, hpl⟩
          obtain ⟨hF7, hN7⟩ := mvd_fresh HF.out HNw1.out hmv
          have HF7 : Hid (Fresh w W7) := hF7
          have HN7 : Hid (Nw0 w F2) := hN7
          have HB7 : Hid (¬ F2 b6 ∧ b6 < W7.heap.size) := ⟨fun h => (hmv.2.2 b6 h).elim HB1.out.1 (fun h2 => by have := HB1.out.2; omega), Nat.lt_of_lt_of_le HB1.out.2 hmv.1.size⟩
          have HCe7 : Hid (∀ k, k < ln → W7.cell? ⟨b6, off6 + k, none⟩ = some (zV (gI Lc k))) := fun k hk => (hmv.1.cell (p := ⟨b6, off6 + k, none⟩) HB1.out.2 HB1.out.1).trans (HCe.out k hk)
          have HCu7 : Hid (CuI T s F2 W7 b (fed ++ r1) (o ++ pc)) := hcu
          have HC8 := show Hid _ from HCl.out pc W7 hpl hcl
          have hcat : (⟨o.toArray⟩ : ByteArray) ++ ⟨pc.toArray⟩ = ⟨(o ++ pc).toArray⟩ := cat_l o pc
          have hps : (⟨pc.toArray⟩ : ByteArray).size = pc.length := len_l pc
          have hpp : (pc == pc) = true := beq_self_eq_true _
          have hol2 : (o ++ pc).length ≤ 3145728 := by have := CuI.len hcu Hs2.out; omega
          have hopp : (o ++ pc == o ++ pc) = true := beq_self_eq_true _
          clear HFeed hcu hmv hF7 hN7 HF HNw1 HB1 HCe hcl ci
          generalize hop : o ++ pc = op at *
          clear hop
          go_wp2_with fail
          refine Calls.mono HC8.out ?_
          rintro e' W8 ⟨rfl, hF8⟩
          have HF8 : Hid (Fresh w W8) := HF7.out.trans hF8 (fun _ _ e => e)
          have HCu8 : Hid (CuI T s F2 W8 b (fed ++ r1) op) := HCu7.out.fresh hF8
          have HB8 : Hid (¬ F2 b6 ∧ b6 < W8.heap.size) := ⟨HB7.out.1, Nat.lt_of_lt_of_le HB7.out.2 hF8.size⟩
          have HCe8 : Hid (∀ k, k < ln → W8.cell? ⟨b6, off6 + k, none⟩ = some (zV (gI Lc k))) := fun k hk => (hF8.cell (p := ⟨b6, off6 + k, none⟩) HB7.out.2 (fun e => e)).trans (HCe7.out k hk)
          have HH8 := show Hid _ from Held_cu HCu8.out HG.out
          clear HC8 hF8 HF7 HCu7 HB7 HCe7
          go_wp2_with fail
          refine Calls.mono HH8.out ?_
          rintro e' W9 ⟨⟨hd, rfl, hdl, _⟩, hW⟩
          have hW' := hW.symm
          subst hW'
          have HT8 := show Hid _ from Text_cu HCu8.out
          have hds : (⟨hd.toArray⟩ : ByteArray).size = hd.length := len_l hd
          have hd64 : decide ((64 : Int) ≤ (hd.length : Int)) = false := decide_eq_false (by omega)
          clear HH8 hW
          go_wp2_with fail
          refine Calls.mono HT8.out ?_
          rintro e' W9 ⟨rfl, hW⟩
          have hW' := hW.symm
          subst hW'
          have HS8 := show Hid _ from Stopped_cu HCu8.out
          clear HT8 hW
          go_wp2_with fail
          refine Calls.mono HS8.out ?_
          rintro e' W9 ⟨⟨pl, mt, rfl, hmt⟩, hF9⟩
          have HF9 : Hid (Fresh w W9) := HF8.out.trans hF9 (fun _ _ e => e)
          have HCu9 : Hid (CuI T s F2 W9 b (fed ++ r1) op) := HCu8.out.fresh hF9
          have HB9 : Hid (¬ F2 b6 ∧ b6 < W9.heap.size) := ⟨HB8.out.1, Nat.lt_of_lt_of_le HB8.out.2 hF9.size⟩
          have HCe9 : Hid (∀ k, k < ln → W9.cell? ⟨b6, off6 + k, none⟩ = some (zV (gI Lc k))) := fun k hk => (hF9.cell (p := ⟨b6, off6 + k, none⟩) HB8.out.2 (fun e => e)).trans (HCe8.out k hk)
          have HMt : Hid (mt = true → Calls Tryd.prog 21 #[.pointer (some ⟨b, 0, none⟩)] W9 fun e w' => e = .returned (sV []) ∧ w' = W9) := fun h => Held_any ((hmt h).fresh hF9)
          clear HS8 hF9 HF8 HCu8 HB8 HCe8 hmt
          cases mt with
          | true =>
            have HM9 := show Hid _ from HMt.out rfl
            clear HMt
            go_wp2_with fail
            refine Calls.mono HM9.out ?_
            rintro e' W10 ⟨rfl, hW⟩
            have hW' := hW.symm
            subst hW'
            clear HM9 hW
            go_wp2
            go_roundw
            case rel => exact ⟨i + 1, fed ++ r1, r2, op, F2, by omega, by go_num, rfl, rfl, Hs2, Hend2, HCu9, HN7, HF9, HB9, HCe9⟩
            case measure => simp [RowKit.intOf]; omega
          | false =>
            clear HMt
            go_wp2
            go_roundw
            case rel => exact ⟨i + 1, fed ++ r1, r2, op, F2, by omega, by go_num, rfl, rfl, Hs2, Hend2, HCu9, HN7, HF9, HB9, HCe9⟩
            case measure => simp [RowKit.intOf]; omega
      · have hlt' : ¬ (i : Int) < (ln : Int) := by omega
        have hr0 := Hend.out (by omega)
        subst hr0
        have hfs : s = fed := by have := Hs.out; rwa [List.append_nil] at this
        have HE0 := show Hid _ from End_cu (by have := HCu1.out; rw [← hfs] at this; exact this) HG.out hl
        clear HCu1 hfs Hs Hend HCe HB1
        go_wp2_with fail
        refine Calls.mono HE0.out ?_
        rintro e' W7 ⟨pc, F2, mt, met, rfl, hop, hst, hmv, hcl, hpl, hcase⟩
        obtain ⟨hF7, hN7⟩ := mvd_fresh HF.out HNw1.out hmv
        have HF7 : Hid (Fresh w W7) := hF7
        have HS7 : Hid (StM F2 W7 b T (clL (cuS T s)) [] true mt met) := hst
        have HC8 := show Hid _ from HCl.out pc
        have HPc : Hid (pc.length ≤ 50331648 ∧ clL pc = pc) := ⟨hpl, hcl⟩
        have hcat : (⟨o.toArray⟩ : ByteArray) ++ ⟨pc.toArray⟩ = ⟨O.toArray⟩ := by rw [HO1.out.1, ← hop]; exact cat_l o pc
        have hps : (⟨pc.toArray⟩ : ByteArray).size = pc.length := len_l pc
        have hpp : (pc == pc) = true := beq_self_eq_true _
        have hOO : (O == O) = true := beq_self_eq_true _
        have HCase : Hid ((mt = true ∧ met = P ∧ 0 ≤ P) ∨ (mt = false ∧ met = 0 ∧ P = -1)) := by
          show _ ∨ _
          rw [HO1.out.2]
          exact hcase
        have HSt7 := show Hid _ from Stopped_any hst
        clear HE0 hop hst hmv hF7 hN7 hcl hcase HO1 HF HNw1 HCl
        go_wp2_with fail
        refine Calls.mono HSt7.out ?_
        rintro e' W8 ⟨rfl, hF8⟩
        have HF8 : Hid (Fresh w W8) := HF7.out.trans hF8 (fun _ _ e => e)
        have HS8 : Hid (StM F2 W8 b T (clL (cuS T s)) [] true mt met) := HS7.out.fresh hF8
        have HC9 := show Hid _ from HC8.out W8 HPc.out.1 HPc.out.2
        clear HSt7 hF8 HF7 HS7 HC8 HPc
        go_wp2_with fail
        refine Calls.mono HC9.out ?_
        rintro e' W9 ⟨rfl, hF9⟩
        have HF9 : Hid (Fresh w W9) := HF8.out.trans hF9 (fun _ _ e => e)
        have hS9 := HS8.out.fresh hF9
        have HH9 := show Hid _ from Held_any hS9
        have HFd9 := show Hid _ from Feed_ended [120] hS9
        have HEn9 := show Hid _ from End_ended hS9
        clear HC9 hF9 HF8 HS8 hS9
        rcases HCase.out with ⟨rfl, rfl, hp0⟩ | ⟨rfl, rfl, rfl⟩
        all_goals
          clear HCase
          go_wp2_with fail
          refine Calls.mono HH9.out ?_
          rintro e' W10 ⟨rfl, hW⟩
          have hW' := hW.symm
          subst hW'
          clear HH9 hW
          go_wp2_with fail
          refine Calls.mono HFd9.out ?_
          rintro e' W10 ⟨rfl, hW⟩
          have hW' := hW.symm
          subst hW'
          clear HFd9 hW
          go_wp2_with fail
          refine Calls.mono HEn9.out ?_
          rintro e' W10 ⟨rfl, hW⟩
          have hW' := hW.symm
          subst hW'
          clear HEn9 hW
          go_wp2
          go_ret
          exact ⟨by simp, HF9.out⟩
  · generalize chkF T = E at *
    have hcb : (E == 0) = false := beq_eq_false_iff_ne.2 hc
    have hcb2 : (E != 0) = true := by simpa using hc
    have hC' : Hid (E ≠ 0) := hc
    clear HO HCl HT HTw hc
    go_enter Tryd.func7, Tryd.ntmps7
    go_wp2_with fail
    refine Calls.mono HA.out ?_
    rintro e' W1 ⟨rfl, hF1⟩
    have HF1 : Hid (Fresh w W1) := hF1
    have HW1 := show Hid _ from HW.out W1 hF1
    clear HA hF1 HW
    go_wp2_with fail
    refine Calls.mono HW1.out ?_
    rintro e' W2 ⟨rfl, hF2⟩
    have HF2 : Hid (Fresh w W2) := HF1.out.trans hF2 (fun _ _ e => e)
    have HN2 := show Hid _ from HN.out W2 HF2.out
    clear HW1 hF2 HF1 HN
    go_wp2_with fail
    refine Calls.mono HN2.out ?_
    rintro e' W3 ⟨hF3, ⟨_, rfl⟩ | ⟨h, _⟩⟩
    · have HF3 : Hid (Fresh w W3) := HF2.out.trans hF3 (fun _ _ e => e)
      have HK3 := show Hid _ from HK.out W3 HF3.out
      clear HN2 hF3 HF2 HK
      go_wp2_with fail
      refine Calls.mono HK3.out ?_
      rintro e' W4 ⟨rfl, hF4⟩
      have HF4 : Hid (Fresh w W4) := HF3.out.trans hF4 (fun _ _ e => e)
      clear HK3 hF4 HF3
      go_wp2
      go_ret
      exact ⟨rfl, HF4.out⟩
    · exact absurd h hC'.out

set_option maxRecDepth 100000 in
theorem contract (H : Type) (enc : TypeId × Value → H) (W : World) (base : Nat) (args : Array Value) (ds gs : List (DataW H)) (before : List MemPlace)
    (hval : ∀ (j : Nat) t v, Tryd.f7.params[j]? = some t → args[j]? = some v → Value.okWide Tryd.prog W .any base t v)
    (hW : DataW.Whole enc Tryd.prog Tryd.f7.params.toList Rows.streamCutsSpec.vars false W args.toList ds gs before) (hbk : Rows.uptoSmall H (ds ++ gs) = true)
    (hsz : (DataW.weightsEach Tryd.prog (Tryd.f7.params.toList ++ []) (ds ++ gs)).all (· ≤ reachBytes) = true) (hsh : W.ShapedOpen Tryd.prog) (hL : laidMetH Tryd.prog Rows.streamCutsRow.laid W) :
    Calls Tryd.prog 7 args W fun e W' => ∃ v, e = .returned v ∧ Rows.streamCutsSpec.post enc Tryd.prog Tryd.f7 false true false false W args v W' := by
  have hW' := hW
  obtain ⟨p, q, hA0, hV, rfl, hfz, hnd⟩ := hW
  have hA : DataW.TrodAll enc Tryd.prog W 0 (fun _ => true) true Tryd.f7.params.toList args.toList ds p := hA0
  rw [Tryd.params7] at hA hval hsz
  obtain ⟨rfl, rfl⟩ := trodVars_none hV
  obtain ⟨v0, v1, v2, d0, d1, d2, p0, p1, p2, rfl, rfl, rfl, h0, h1, h2⟩ := trodAll_three hA
  have hbd := bulk_le hbk
  simp only [List.append_nil, Rows.uptoBulkAll, Nat.add_zero] at hbd
  obtain ⟨T, hT⟩ := txr_of (hval 0 26 v0 rfl rfl) h0 (by omega)
  obtain ⟨l, rfl, hl⟩ := str_of (hval 1 9 v1 rfl rfl) h1 (by omega)
  obtain ⟨L, hLi, hLl⟩ := inr_of (hval 2 47 v2 rfl rfl) h2 (by omega)
  refine (walk W v0 v2 T l L hT hl (tbm_of hL hsh) hLi hLl).mono fun e W' ⟨he, hk⟩ => ?_
  subst he
  exact ⟨_, rfl, post_law rfl (by kernel_rfl) (by kernel_rfl) hW' rfl hk⟩

set_option maxRecDepth 100000 in
theorem laid_met (os : Os) : laidMet Tryd.prog Rows.streamCutsUptoRow.laid ((layIn (World.holding Tryd.prog os ⟨#[], #[], []⟩)).forCall (fun _ _ => 0) ⟨#[], #[.slice none 0 0, .string ⟨#[]⟩, .slice none 0 0], []⟩).memory :=
  laidMet_of_run' 8 (by kernel_rfl) (by kernel_rfl)
set_option maxRecDepth 100000 in
theorem reads (os : Os) {H : Type} (enc : TypeId × Value → H) : ∃ places, DataW.whole enc Tryd.prog ((layIn (World.holding Tryd.prog os ⟨#[], #[], []⟩)).forCall (fun _ _ => 0) ⟨#[], #[.slice none 0 0, .string ⟨#[]⟩, .slice none 0 0], []⟩).memory Tryd.f7.params.toList Rows.streamCutsSpec.vars false (#[.slice none 0 0, .string ⟨#[]⟩, .slice none 0 0] : Array Value).toList 8 = some ([.nil, .lit (.string []), .nil], [], places) :=
  ⟨[], by kernel_rfl⟩

set_option maxRecDepth 100000 in
theorem lifted (os : Os) (started : os.Started) (H : Type) (enc : TypeId × Value → H) (F : Stop.Interp) :
    ReturnsInHanded {} Tryd.checked os 7 .any ((Rows.OpenSpec.upto Rows.streamCutsSpec).preRow enc Tryd.prog Tryd.f7 Rows.streamCutsUptoRow.domain false Rows.streamCutsUptoRow.laid) (((Rows.OpenSpec.upto Rows.streamCutsSpec).at F).post enc Tryd.prog Tryd.f7 false true false false) := by
  obtain ⟨places, hx⟩ := reads os enc
  refine returnsInHanded_of_row (C := Tryd.checked) (s := Rows.OpenSpec.upto Rows.streamCutsSpec) Tryd.own started (by kernel_rfl) Tryd.func7
    (witness_row_at (enc := enc) (C := Tryd.checked) false (layIn (World.holding Tryd.prog os ⟨#[], #[], []⟩)) #[.slice none 0 0, .string ⟨#[]⟩, .slice none 0 0] rfl (by kernel_rfl) (by kernel_rfl) (by kernel_rfl)
      (OpenSpec.preRow_of_cond 8 hx (by kernel_rfl) (fun k hk => by cases hk; kernel_rfl) (by kernel_rfl) (laid_met os))) ?_
  intro W base args ds gs before hval hW _ hc hsz hL hsh _
  exact contract H enc W base args ds gs before hval hW (hc _ rfl) hsz hsh hL

theorem said : Rows.StreamCutsUptoSaid :=
  OpenClaim.holds_of_cond 7 Tryd.f7 rfl rfl rfl rfl rfl rfl rfl ⟨rfl, rfl, rfl, rfl, rfl⟩ rfl rfl rfl rfl rfl (by kernel_rfl) Tryd.func7 (by kernel_rfl)
    (of_decide_eq_true (by kernel_rfl)) (by unfold Func.isWrapper; first | (rw [if_pos (by decide +kernel)]; kernel_rfl) | (rw [if_neg (by decide +kernel)]; exact ⟨rfl, rfl⟩))
    (fun os started H enc _ F => by rw [OpenClaim.pre_eq_preRow]; exact lifted os started H enc F)

theorem plain (f : FuncId) (fn : Func) (hf : Tryd.pinned.checked.prog.funcNamed Rows.streamCutsUptoRow.func = some f) (hfn : Tryd.pinned.checked.prog.funcs[f]? = some fn) :
    false = Tryd.pinned.checked.prog.looks [] ∧ ∀ (j : Nat) t, fn.params[j]? = some t → Tryd.pinned.checked.prog.wantsStandIn t = false := by
  obtain rfl : f = 7 := Option.some.inj ((show Tryd.prog.funcNamed Rows.streamCutsUptoRow.func = some 7 by kernel_rfl).symm.trans hf) |>.symm
  obtain rfl : fn = Tryd.f7 := (Option.some.inj (Tryd.func7.symm.trans hfn)).symm
  refine ⟨by kernel_rfl, fun j t ht => ?_⟩
  have hall : (Tryd.f7.params.toList.all fun u => !Tryd.prog.wantsStandIn u) = true := by kernel_rfl
  exact (show Tryd.prog.wantsStandIn t = false by simpa using List.all_eq_true.1 hall t (Array.mem_toList_iff.2 (Array.mem_of_getElem? ht)))

theorem card : Rows.StreamCutsUptoCardSaid :=
  Claim7.holds_tied_plain_at .later [] _ _ _ _ said (fun _ h => by cases h) (by kernel_rfl) (fun _ h => by cases h) streamCutsUpto_row_tie rfl ⟨rfl, rfl⟩ (by kernel_rfl) rfl plain (by kernel_rfl)

end Go.Proofs.YtkkaaoflolgaiaaDoor.SCuts
namespace Go.Proofs.YtkkaaoflolgaiaaDoor
theorem streamCuts_upto_card : Rows.StreamCutsUptoCardSaid := SCuts.card
end Go.Proofs.YtkkaaoflolgaiaaDoor
