/-
  For every number of places and every list of texts the statement PoolKinds answers true: the walk.
-/
import Derived.Test.YtomikgnifbgfiaaDoorPln
namespace Go.Proofs.YtomikgnifbgfiaaDoor
open Go.ChangeShapes Go.WideShapes Go.ChangeAt Go.RowKit

/-- A list of texts that came in. -/
def TsAt (w : World) (v : Value) (ts : List ByteArray) : Prop :=
  ∃ ao cap, v = .slice ao ts.length cap ∧ ts.length ≤ 140737488351232 ∧ (ts ≠ [] → ∃ b off, ao = some ⟨b, off, none⟩ ∧ b < w.heap.size ∧ ∀ i (h : i < ts.length), w.cell? ⟨b, off + i, none⟩ = some (.string ts[i]))
theorem TsAt.at {w W : World} {v : Value} {ts : List ByteArray} (h : TsAt w v ts) (hk : Fresh w W) {i : Nat} (hi : i < ts.length) : ∃ b off cap, v = .slice (some ⟨b, off, none⟩) ts.length cap ∧ W.cell? ⟨b, off + i, none⟩ = some (.string ts[i]) ∧ b < w.heap.size := by
  obtain ⟨ao, cap, hv, _, hc⟩ := h
  obtain ⟨b, off, ha, hb, hcl⟩ := hc (fun e => by rw [e] at hi; simp at hi)
  exact ⟨b, off, cap, by rw [hv, ha], (hk.cell (p := ⟨b, off + i, none⟩) hb (fun e => e)).trans (hcl i hi), hb⟩
theorem Tryd.cS : Tryd.prog.cellsOf 9 = 1 := by kernel_rfl
theorem Tryd.bS : Tryd.prog.bytesOf 9 = 16 := by kernel_rfl
theorem texts_at {H : Type} {enc : TypeId × Value → H} {W : World} {fuel : Nat} {v : Value} {x : DataW H × List MemPlace} (h : DataW.trod enc Tryd.prog W 0 (fun _ => true) true fuel 43 [v] = some x) (hsz : ∀ es sp, x.1 = .slice es sp → es.length ≤ 140737488351232) :
    ∃ l : List ByteArray, TsAt W v l := by
  rcases Go.Deep.open_slice Tryd.underlying43 h with ⟨hcs, hx⟩ | ⟨a, len, cap, m, n, D, Pl, hcs, _, hl, hmx, hm, hx, hel⟩
  · exact ⟨[], none, 0, by simpa using hcs, by simp, fun e => absurd rfl e⟩
  · simp only [if_true] at hm
    subst hm
    rw [Tryd.cS] at hel
    have hlen : len ≤ 140737488351232 := by
      have := hsz _ _ (by rw [hx])
      rw [List.length_map, List.length_range] at this
      exact this
    have build : ∀ k, k ≤ len → ∃ l : List ByteArray, l.length = k ∧ ∀ i (hi : i < l.length), W.cells? 0 (a.add (i * 1)) 1 = some [.string l[i]] := by
      intro k
      induction k with
      | zero => intro _; exact ⟨[], rfl, fun i hi => by simp at hi⟩
      | succ k ih =>
        intro hk
        obtain ⟨l, hlk, hcl⟩ := ih (by omega)
        obtain ⟨cs', hc, ht⟩ := hel k (by omega)
        obtain ⟨s, hcs', _, _⟩ := DataW.trod_string Tryd.underlying9 ht
        refine ⟨l ++ [s], by simp [hlk], fun i hi => ?_⟩
        by_cases hik : i < l.length
        · rw [List.getElem_append_left hik]
          exact hcl i hik
        · have hie : i = l.length := by simp at hi; omega
          subst hie
          rw [List.getElem_concat_length rfl]
          rw [hlk, hc, hcs']
    obtain ⟨l, hll, hcl⟩ := build len (Nat.le_refl _)
    refine ⟨l, some a, m, by rw [hll]; simpa using hcs, by omega, fun hne => ?_⟩
    have hpos : 0 < l.length := List.length_pos_iff.2 hne
    obtain ⟨b, off, spot⟩ := a
    have h0 := (World.cells?_some (hcl 0 hpos)).2.2 0 (by omega)
    have hspot : spot = none := by simpa [Addr.add] using World.cell?_spot h0
    subst hspot
    have hb0 := World.block_lt_of_cell? W _ h0
    refine ⟨b, off, rfl, by simpa [Addr.add] using hb0, fun i hi => ?_⟩
    have c0 := (World.cells?_some (hcl i hi)).2.2 0 (by omega)
    simp only [Addr.add_lit, Nat.mul_one, Nat.add_zero] at c0
    exact c0

/-- What holds between two rounds: a pool of texts and one of singles. -/
structure KnSt (w wr : World) (b c N : Nat) (vt vg : Value) (ss : List ByteArray) (ms : List Nat) : Prop where
  tx : TxAt wr b N vt ss
  sg : SgAt wr c N vg ms
  bn : w.heap.size ≤ b
  cn : w.heap.size ≤ c
  tn : ∀ g, vt.ownBlock = some g → w.heap.size ≤ g
  gn : ∀ g, vg.ownBlock = some g → w.heap.size ≤ g
  fr : Fresh w wr
section
variable {w wr w' : World} {b c N : Nat} {vt vg vt' vg' : Value} {ss ss' : List ByteArray} {ms ms' : List Nat}
theorem KnSt.fresh (h : KnSt w wr b c N vt vg ss ms) (hF : Fresh wr w') : KnSt w w' b c N vt vg ss ms :=
  ⟨h.tx.kept hF (fun e => e) (fun _ _ e => e), h.sg.kept hF (fun e => e) (fun _ _ e => e), h.bn, h.cn, h.tn, h.gn, h.fr.trans hF (fun _ _ e => e)⟩
theorem moved_new {v v' : Value} (hm : RowMoved wr v v') (hn : ∀ g, v.ownBlock = some g → w.heap.size ≤ g) (hs : w.heap.size ≤ wr.heap.size) : ∀ g, v'.ownBlock = some g → w.heap.size ≤ g := fun g hg => by
  rcases hm with e | ⟨g', e, h'⟩
  · exact hn g (e ▸ hg)
  · rw [e] at hg; simp at hg; omega
theorem KnSt.takeT (h : KnSt w wr b c N vt vg ss ms) (ht : TxAt w' b N vt' ss') (hk : Kept (fun k => k = b ∨ vt.ownBlock = some k) wr w') (hm : RowMoved wr vt vt') : KnSt w w' b c N vt' vg ss' ms := by
  refine ⟨ht, h.sg.kept hk (fun e => ?_) (fun g hg e => ?_), h.bn, h.cn, moved_new hm h.tn h.fr.size, h.gn, h.fr.trans hk (fun i hi e => ?_)⟩
  · rcases e with e | e
    · exact ne_type h.sg.blk h.tx.blk (by decide) e
    · exact row_ne h.tx.th h.sg.blk (by decide) e
  · rcases e with e | e
    · exact row_ne h.sg.th h.tx.blk (by decide) (by rw [hg, e])
    · exact row_row h.sg.th h.tx.th (by decide) hg e
  · rcases e with e | e
    · have := h.bn; omega
    · have := h.tn i e; omega
theorem KnSt.takeG (h : KnSt w wr b c N vt vg ss ms) (ht : SgAt w' c N vg' ms') (hk : Kept (fun k => k = c ∨ vg.ownBlock = some k) wr w') (hm : RowMoved wr vg vg') : KnSt w w' b c N vt vg' ss ms' := by
  refine ⟨h.tx.kept hk (fun e => ?_) (fun g hg e => ?_), ht, h.bn, h.cn, h.tn, moved_new hm h.gn h.fr.size, h.fr.trans hk (fun i hi e => ?_)⟩
  · rcases e with e | e
    · exact ne_type h.tx.blk h.sg.blk (by decide) e
    · exact row_ne h.sg.th h.tx.blk (by decide) e
  · rcases e with e | e
    · exact row_ne h.tx.th h.sg.blk (by decide) (by rw [hg, e])
    · exact row_row h.tx.th h.sg.th (by decide) hg e
  · rcases e with e | e
    · have := h.cn; omega
    · have := h.gn i e; omega
end

set_option maxRecDepth 100000 in
set_option maxHeartbeats 2000000 in
theorem kinds_walk (P : Int) (v : Value) (ts : List ByteArray) (w : World) (hT : Tab w) (hg : TsAt w v ts) :
    Calls Tryd.prog 6 #[.int .i64 P, v] w fun e w' => e = .returned (.bool true) ∧ Fresh w w' := by
  have hsl : ts.length ≤ 140737488351232 := let ⟨_, _, _, h, _⟩ := hg; h
  have HG : Hid (TsAt w v ts) := hg
  obtain ⟨ao, cap, hv⟩ : ∃ ao cap, v = .slice ao ts.length cap := let ⟨ao, cap, h, _⟩ := hg; ⟨ao, cap, h⟩
  clear hg
  subst hv
  by_cases hN : 1 ≤ P ∧ P ≤ 65536
  · obtain ⟨N, rfl⟩ := Int.eq_ofNat_of_zero_le (show 0 ≤ P by omega)
    have hN2 : N ≤ 65536 := by omega
    have hN1 : 1 ≤ N := by omega
    clear hN
    go_enter Tryd.func6, Tryd.ntmps6
    go_wp2_with fail
    refine (newT_any N w hN1 hN2).mono ?_
    rintro e w1 ⟨rfl, hP1, hF1⟩
    go_wp2_with fail
    refine (newG_any N w1 hN1 hN2).mono ?_
    rintro e w2 ⟨rfl, hP2, hF2⟩
    go_wp2_with fail
    refine (new_ref N w2 hN1 hN2).mono ?_
    rintro e w3 ⟨v3, rfl, hR3, hF3⟩
    obtain ⟨a3, p3, hv3⟩ := slice_shape hR3.1
    rw [List.length_replicate] at hv3
    subst hv3
    have hF03 : Fresh w w3 := (hF1.trans hF2 (fun _ _ e => e)).trans hF3 (fun _ _ e => e)
    have hSt : KnSt w w3 w.heap.size w1.heap.size N (.slice none 0 0) (.slice none 0 0) [] [] :=
      ⟨(hP1.kept hF2 (fun e => e) (fun _ _ e => e)).kept hF3 (fun e => e) (fun _ _ e => e), hP2.kept hF3 (fun e => e) (fun _ _ e => e), Nat.le_refl _, hF1.size, by simp [Value.ownBlock], by simp [Value.ownBlock], hF03⟩
    have hT3 := hT.kept hF03 (fun e => e)
    clear hP1 hP2 hR3 hF1 hF2 hF3 hF03
    go_wp2_with fail
    refine (awake_any w3 hT3).mono ?_
    rintro e w4 ⟨rfl, hF4⟩
    have hSt4 := hSt.fresh hF4
    clear hSt hF4 hT3
    generalize w1.heap.size = c at *
    generalize w.heap.size = b at hSt4 ⊢
    go_wp2
    go_loopw [11] (fun i wr => ∃ j : Nat, (j ≤ ts.length ∧ j ≤ N) ∧ i = .int .i64 (j : Int) ∧ ∃ vt vg, KnSt w wr b c N vt vg (ts.take j) (List.range j)) (fun i _ => ts.length - (intOf i).toNat)
    case atStart => exact ⟨0, ⟨Nat.zero_le _, Nat.zero_le _⟩, rfl, _, _, hSt4⟩
    case round =>
      obtain ⟨j, ⟨hj, hj2⟩, rfl, vt, vg, hS⟩ := hrel
      clear hSt4
      have HS : Hid (KnSt w wr b c N vt vg (ts.take j) (List.range j)) := hS
      clear hS
      by_cases hlt : j < ts.length
      · by_cases hlt2 : j < N
        · obtain ⟨sb, off, cp, hv, c0, hsb⟩ := HG.out.at HS.out.fr hlt
          cases hv
          have htl : (ts.take j).length = j := by rw [List.length_take]; omega
          have hrl : (List.range j).length = j := List.length_range
          have hts : ts.take j ++ [ts[j]] = ts.take (j + 1) := by simp
          have hrs : List.range j ++ [j] = List.range (j + 1) := List.range_succ.symm
          have ht := fun (_ : Unit) => takeT b N vt (ts.take j) ts[j] wr HS.out.tx (by omega)
          rw [htl, hts] at ht
          have HTk := show Hid _ from ht
          have HG2 : Hid (∀ w' vt', KnSt w w' b c N vt' vg (ts.take (j + 1)) (List.range j) → Calls Tryd.prog 22 #[.pointer (some ⟨c, 0, none⟩), .agg #[.int .i64 0, .bool ((j : Int) % 2 == 1), .int .i64 (j : Int), .int .i64 0]] w' fun e w'' => e = .returned (.tuple #[.int .i64 (j : Int), .int .i64 0]) ∧ ∃ vg', KnSt w w'' b c N vt' vg' (ts.take (j + 1)) (List.range (j + 1))) := fun w' vt' hS' => by
            have h := Go.Proofs.YtomikgnifbgfiaaDoor.takeG c N vg (List.range j) j w' hS'.sg (by omega)
            rw [hrl, hrs] at h
            exact h.mono fun e w'' ⟨he, vg', h1, h2, h3⟩ => ⟨he, vg', hS'.takeG h1 h2 h3⟩
          clear ht htl hrl hts hrs
          generalize ts[j] = s at *
          go_wp2_with fail
          refine (HTk.out ()).mono ?_
          rintro e w5 ⟨rfl, vt5, h5, k5, m5⟩
          have HS5 : Hid (KnSt w w5 b c N vt5 vg (ts.take (j + 1)) (List.range j)) := HS.out.takeT h5 k5 m5
          clear h5 k5 m5 HTk
          go_wp2_with fail
          refine (HG2.out w5 vt5 HS5.out).mono ?_
          rintro e w6 ⟨rfl, vg6, h6⟩
          have HS6 : Hid (KnSt w w6 b c N vt5 vg6 (ts.take (j + 1)) (List.range (j + 1))) := h6
          clear h6 HG2
          go_wp2
          go_roundw
          case rel => exact ⟨j + 1, ⟨by omega, by omega⟩, by go_num, _, _, HS6.out⟩
          case measure => simp [intOf]; omega
        · have hnl : ¬ (j : Int) < (N : Int) := by omega
          have hjl : (j : Int) < (ts.length : Int) := by omega
          -- the texts and singles are got again
          go_wp2
          go_loopw [16] (fun i wr => ∃ k : Nat, k ≤ j ∧ i = .int .i64 (k : Int) ∧ KnSt w wr b c N vt vg (ts.take j) (List.range j)) (fun i _ => j - (intOf i).toNat)
          case atStart => exact ⟨0, Nat.zero_le _, rfl, HS.out⟩
          case round =>
            obtain ⟨k, hk, rfl, hS2⟩ := hrel
            have HS2 : Hid (KnSt w wr b c N vt vg (ts.take j) (List.range j)) := hS2
            clear hS2 HS
            by_cases hkj : k < j
            · obtain ⟨sb, off, cp, hv, c0, hsb⟩ := HG.out.at HS2.out.fr (show k < ts.length by omega)
              cases hv
              have ht := fun (_ : Unit) => getT b N vt (ts.take j) k wr HS2.out.tx (by rw [List.length_take]; omega)
              rw [List.getElem_take] at ht
              have HTk := show Hid _ from ht
              have hg2 := fun (_ : Unit) => getG c N vg (List.range j) k wr HS2.out.sg (by simpa using hkj)
              rw [List.getElem_range] at hg2
              have HGk := show Hid _ from hg2
              have hkl : (k : Int) < (ts.length : Int) := by omega
              have hkn : (k : Int) < (N : Int) := by omega
              clear ht hg2
              generalize ts[k] = s at *
              go_wp2_with fail
              refine (HTk.out ()).mono ?_
              rintro e w5 ⟨rfl, rfl⟩
              go_wp2_with fail
              refine (HGk.out ()).mono ?_
              rintro e w6 ⟨rfl, hF6⟩
              have HS6 : Hid (KnSt w w6 b c N vt vg (ts.take j) (List.range j)) := HS2.out.fresh hF6
              have c6 : w6.cell? ⟨sb, off + k, none⟩ = some (.string s) := (hF6.cell (p := ⟨sb, off + k, none⟩) (Nat.lt_of_lt_of_le hsb HS2.out.fr.size) (fun e => e)).trans c0
              have c6' : ∀ o, (w6.alloc o).cell? ⟨sb, off + k, none⟩ = some (.string s) := fun o => (((Kept.refl (fun _ => False) w6).alloc o).cell (p := ⟨sb, off + k, none⟩) (World.block_lt_of_cell? w6 _ c6) (fun e => e)).trans c6
              clear hF6 HTk HGk HS2
              go_wp2
              go_roundw
              case rel => exact ⟨k + 1, by omega, by go_num, HS6.out.fresh ((Kept.refl _ _).alloc _)⟩
              case measure => simp [intOf]; omega
            · obtain rfl : k = j := by omega
              have htl : ¬ ts.length < (ts.take k).length := by rw [List.length_take]; omega
              have ht := fun (_ : Unit) => getT_none b N vt (ts.take k) ts.length wr HS2.out.tx htl (by omega)
              have HTk := show Hid _ from ht
              have HFr : Hid (Fresh w wr) := HS2.out.fr
              clear ht htl
              go_wp2_with fail
              refine (HTk.out ()).mono ?_
              rintro e w5 ⟨rfl, rfl⟩
              go_wp2
              go_ret
              exact ⟨rfl, HFr.out⟩
      · have hnl : ¬ (j : Int) < (ts.length : Int) := by omega
        -- the texts and singles are got again
        go_wp2
        go_loopw [16] (fun i wr => ∃ k : Nat, k ≤ j ∧ i = .int .i64 (k : Int) ∧ KnSt w wr b c N vt vg (ts.take j) (List.range j)) (fun i _ => j - (intOf i).toNat)
        case atStart => exact ⟨0, Nat.zero_le _, rfl, HS.out⟩
        case round =>
          obtain ⟨k, hk, rfl, hS2⟩ := hrel
          have HS2 : Hid (KnSt w wr b c N vt vg (ts.take j) (List.range j)) := hS2
          clear hS2 HS
          by_cases hkj : k < j
          · obtain ⟨sb, off, cp, hv, c0, hsb⟩ := HG.out.at HS2.out.fr (show k < ts.length by omega)
            cases hv
            have ht := fun (_ : Unit) => getT b N vt (ts.take j) k wr HS2.out.tx (by rw [List.length_take]; omega)
            rw [List.getElem_take] at ht
            have HTk := show Hid _ from ht
            have hg2 := fun (_ : Unit) => getG c N vg (List.range j) k wr HS2.out.sg (by simpa using hkj)
            rw [List.getElem_range] at hg2
            have HGk := show Hid _ from hg2
            have hkl : (k : Int) < (ts.length : Int) := by omega
            have hkn : (k : Int) < (N : Int) := by omega
            clear ht hg2
            generalize ts[k] = s at *
            go_wp2_with fail
            refine (HTk.out ()).mono ?_
            rintro e w5 ⟨rfl, rfl⟩
            go_wp2_with fail
            refine (HGk.out ()).mono ?_
            rintro e w6 ⟨rfl, hF6⟩
            have HS6 : Hid (KnSt w w6 b c N vt vg (ts.take j) (List.range j)) := HS2.out.fresh hF6
            have c6 : w6.cell? ⟨sb, off + k, none⟩ = some (.string s) := (hF6.cell (p := ⟨sb, off + k, none⟩) (Nat.lt_of_lt_of_le hsb HS2.out.fr.size) (fun e => e)).trans c0
            have c6' : ∀ o, (w6.alloc o).cell? ⟨sb, off + k, none⟩ = some (.string s) := fun o => (((Kept.refl (fun _ => False) w6).alloc o).cell (p := ⟨sb, off + k, none⟩) (World.block_lt_of_cell? w6 _ c6) (fun e => e)).trans c6
            clear hF6 HTk HGk HS2
            go_wp2
            go_roundw
            case rel => exact ⟨k + 1, by omega, by go_num, HS6.out.fresh ((Kept.refl _ _).alloc _)⟩
            case measure => simp [intOf]; omega
          · obtain rfl : k = j := by omega
            have htl : ¬ ts.length < (ts.take k).length := by rw [List.length_take]; omega
            have ht := fun (_ : Unit) => getT_none b N vt (ts.take k) ts.length wr HS2.out.tx htl (by omega)
            have HTk := show Hid _ from ht
            have HFr : Hid (Fresh w wr) := HS2.out.fr
            clear ht htl
            go_wp2_with fail
            refine (HTk.out ()).mono ?_
            rintro e w5 ⟨rfl, rfl⟩
            go_wp2
            go_ret
            exact ⟨rfl, HFr.out⟩
  · go_enter Tryd.func6, Tryd.ntmps6
    go_wp2_with fail
    refine (newT_bad P w hN).mono ?_
    rintro e w1 ⟨rfl, rfl⟩
    go_wp2_with fail
    refine (newG_bad P _ hN).mono ?_
    rintro e w1 ⟨rfl, rfl⟩
    go_wp2_with fail
    refine (new_ref_bad P _ hN).mono ?_
    rintro e w2 ⟨v2, rfl, hF2⟩
    have hT2 := hT.kept hF2 (fun e => e)
    clear hN
    go_wp2_with fail
    refine (awake_any w2 hT2).mono ?_
    rintro e w3 ⟨rfl, hF3⟩
    have HF : Hid _ := fun (_ : Unit) => hF2.trans hF3 (fun _ _ e => e)
    clear hF2 hF3
    go_wp2
    go_ret
    exact ⟨rfl, HF.out ()⟩
end Go.Proofs.YtomikgnifbgfiaaDoor
