/-
  For every number of places and every list of numbers the statement PoolLeast answers true: the walk.
-/
import Derived.Test.YtomikgnifbgfiaaDoorPll
namespace Go.Proofs.YtomikgnifbgfiaaDoor
open Go.RowKit

set_option maxRecDepth 100000 in
set_option maxHeartbeats 4000000 in
theorem least_walk (P : Int) (v : Value) (zs : List Int) (w : World) (hT : Tab w) (hg : GvAt w v zs) :
    Calls Tryd.prog 5 #[.int .i64 P, v] w fun e w' => e = .returned (.bool true) ∧ Fresh w w' := by
  have hsl : zs.length ≤ 140737488351232 := let ⟨_, _, _, h, _⟩ := hg; h
  have HG : Hid (GvAt w v zs) := hg
  obtain ⟨ao, cap, hv⟩ : ∃ ao cap, v = .slice ao zs.length cap := let ⟨ao, cap, h, _⟩ := hg; ⟨ao, cap, h⟩
  clear hg
  subst hv
  have hmm := @run_makeMap Tryd.prog
  by_cases hN : 1 ≤ P ∧ P ≤ 65536
  · obtain ⟨N, rfl⟩ := Int.eq_ofNat_of_zero_le (show 0 ≤ P by omega)
    have hN2 : N ≤ 65536 := by omega
    go_enter Tryd.func5, Tryd.ntmps5
    go_wp2_with fail
    refine (begun_any N w hT (by omega) (by omega)).mono ?_
    rintro e w1 ⟨v1, rfl, hP1, hR1, hF1⟩
    obtain ⟨a1, p1, hv1⟩ := slice_shape hR1.1
    rw [List.length_replicate] at hv1
    have hSt : LeastSt w (w1.alloc (.map #[] 0)) (only w.heap.size) w.heap.size w1.heap.size 0 (List.replicate N none) :=
      ⟨hP1.kept ((Kept.refl (fun _ => False) w1).alloc _) (fun _ _ e => e), MapIs.made w1 N, fun k (e : k = w.heap.size) => by omega, hF1.size, hF1.alloc _⟩
    clear hP1 hR1 hF1
    subst hv1
    go_wp2
    generalize w1.heap.size = M at *
    generalize w.heap.size = b at hSt
    go_loopw [10] (fun i wr => ∃ j : Nat, j ≤ zs.length ∧ i = .int .i64 (j : Int) ∧ ∃ F n l, LeastSt w wr F b M n l ∧ l.length = N ∧ n ≤ j) (fun i _ => zs.length - (intOf i).toNat)
    case atStart => exact ⟨0, Nat.zero_le _, rfl, _, 0, _, hSt, List.length_replicate, Nat.le_refl _⟩
    case round =>
      obtain ⟨j, hj, rfl, F, n, l, hS, hln, hnj⟩ := hrel
      clear hSt
      have HS : Hid (LeastSt w wr F b M n l) := hS
      have HLn : Hid (l.length = N) := hln
      have HMn : Hid (w.heap.size ≤ M) := hS.mnew
      clear hS hln
      by_cases hlt : j < zs.length
      · have hjl : (j : Int) < (zs.length : Int) := by omega
        have htk := fun (_ : Unit) => take_tk F b l (j : Int) wr HS.out.pool (hT.kept HS.out.fr (fun e => e))
        by_cases hfu : used l = l.length
        · have e1 : tkI l = -1 := by unfold tkI; rw [fr_full hfu]; simp
          have e2 : tkE l = 50 := by unfold tkE; rw [fr_full hfu]; simp
          have e3 : tkL l (j : Int) = l := by unfold tkL; rw [fr_full hfu]; simp
          rw [e1, e2, e3] at htk
          have HTk := show Hid _ from htk
          have HFu : Hid (used l = N) := hfu.trans HLn.out
          clear htk e1 e2 e3 hfu
          go_wp2_with fail
          refine (HTk.out ()).mono ?_
          rintro e w2 ⟨rfl, F2, hP2, hK2, hF2⟩
          have hM2 := HS.out.map.kept hK2 (map_apart HS.out.pool HS.out.map)
          have hFr2 : Fresh w w2 := HS.out.fr.trans hK2 (fun i hi e => by have := HS.out.new i e; omega)
          have hNew2 : ∀ k, F2 k → w.heap.size ≤ k := fun k hk => by
            by_cases hkw : k < wr.heap.size
            · exact HS.out.new k (hF2 k hkw hk)
            · have := HS.out.fr.size; omega
          have hlen := hM2.len
          rw [HFu.out] at hlen
          have HPa : Hid (PoolAt w2 F2 b l) := hP2
          have HMa : Hid (MapIs w2 M n l) := hM2
          have HFra : Hid (Fresh w w2) := hFr2
          have HNewa : Hid (∀ k, F2 k → w.heap.size ≤ k) := hNew2
          clear hP2 hK2 hF2 hM2 hFr2 hNew2
          -- the tail: what the map tells of the place, Give, delete, the counts
          obtain ⟨sb, off, cp, hv, cz, hwz, hsb⟩ := HG.out.at HFra.out hlt
          cases hv
          generalize zs.getD j 0 = z at *
          have hll2 := HPa.out.len
          have hul := used_le l
          have hgl := gvL_length l z
          cases hgz : gt l z with
          | none =>
            have hlk := HMa.out.look hwz
            have hgv := fun (_ : Unit) => give_gv F2 b l z w2 HPa.out
            have e1 : gvE l z = 51 := by unfold gvE; rw [hgz]; rfl
            rw [hgz] at hlk
            simp only [hgz, e1, Option.getD_none, Option.isSome_none] at hgv hlk
            have HGv := show Hid _ from hgv
            clear hgv
            have HGL : Hid (gt l z = gt l z) := rfl
            clear hgz e1 HGL
            go_wp2_with fail
            refine (HGv.out ()).mono ?_
            rintro e W4 ⟨rfl, F4, hP4, hK4, hF4⟩
            have hFr4 : Fresh w W4 := HFra.out.trans hK4 (fun i hi e => by have := HNewa.out i e; omega)
            have hM4 := HMa.out.kept hK4 (map_apart HPa.out HMa.out)
            have cz4 : W4.cell? ⟨sb, off + j, none⟩ = some (.int .i64 z) := (hK4.cell (p := ⟨sb, off + j, none⟩) (Nat.lt_of_lt_of_le hsb HFra.out.size) (fun e => by have h9 : w.heap.size ≤ sb := HNewa.out sb e; omega)).trans cz
            obtain ⟨W5, hdr, hM5, hg5⟩ := hM4.drop hwz 0
            have hK5 : Kept (only M) W4 W5 := (Kept.refl (only M) W4).grown hg5 (fun k _ e => by simp at e; exact e.symm)
            have hP5 := hP4.kept hK5 (fun k hk (e : k = M) => map_apart hP4 hM4 (by rw [← e]; exact hk))
            have hFr5 : Fresh w W5 := hFr4.trans hK5 (fun i hi (e : i = M) => by have := HMn.out; omega)
            have hln5 := fun n => (hM5.kept ((Kept.refl (fun _ => False) W5).drewN n) (fun e => e)).len
            have hNew5 : ∀ k, F4 k → w.heap.size ≤ k := fun k hk => by
              by_cases hkw : k < w2.heap.size
              · exact HNewa.out k (hF4 k hkw hk)
              · have := HFra.out.size; omega
            have HP5 : Hid (PoolAt W5 F4 b (gvL l z)) := hP5
            have HM5 : Hid (MapIs W5 M n (gvL l z)) := hM5
            have HFr5 : Hid (Fresh w W5) := hFr5
            have HNew5 : Hid (∀ k, F4 k → w.heap.size ≤ k) := hNew5
            have HUs := show Hid _ from (fun (_ : Unit) => used_any F4 b (gvL l z) W5 hP5)
            have HFe := show Hid _ from (fun n => free_any F4 b (gvL l z) (W5.drewN n) (hP5.drewN n))
            have hul5 := used_le (gvL l z)
            have HLen : Hid ((gvL l z).length = N) := hgl.trans HLn.out
            rw [hgl, HLn.out] at HFe
            rw [hgl, HLn.out] at hul5
            clear hP4 hM4 hK4 hFr4 hg5 hK5 hP5 hFr5 hNew5 hF4 hM5 HGv hgl
            have hu5 : ((N - used (gvL l z) : Nat) : Int) = (N : Int) - (used (gvL l z) : Int) := by omega
            rw [hu5] at HFe
            clear hu5
            generalize hgL5 : used (gvL l z) = u5 at *
            clear hgL5
            go_wp2_with fail
            refine (HUs.out ()).mono ?_
            rintro e W6 ⟨rfl, n6, rfl⟩
            have hln6 := hln5 n6
            go_wp2_with fail
            refine (HFe.out n6).mono ?_
            rintro e W7 ⟨rfl, n7, rfl⟩
            have hln7 := hln5 (n6 + n7)
            rw [← World.drewN_drewN] at hln7
            go_wp2
            go_roundw
            case rel => exact ⟨j + 1, by omega, by go_num, F4, n, gvL l z, ⟨HP5.out.drewN (n6 + n7), HM5.out.kept (S := fun _ => False) ((Kept.refl (fun _ => False) W5).drewN (n6 + n7)) (fun e => e), HNew5.out, HMn.out, HFr5.out.drewN (n6 + n7)⟩, HLen.out, by omega⟩
            case measure => simp [intOf]; omega
          | some a =>
            have hlk := HMa.out.look hwz
            have hgv := fun (_ : Unit) => give_gv F2 b l z w2 HPa.out
            have e1 : gvE l z = 0 := by unfold gvE; rw [hgz]; rfl
            rw [hgz] at hlk
            simp only [hgz, e1, Option.getD_some, Option.isSome_some] at hgv hlk
            have HGv := show Hid _ from hgv
            clear hgv
            have HGL : Hid (gt l z = gt l z) := rfl
            clear hgz e1 HGL
            go_wp2_with fail
            refine (HGv.out ()).mono ?_
            rintro e W4 ⟨rfl, F4, hP4, hK4, hF4⟩
            have hFr4 : Fresh w W4 := HFra.out.trans hK4 (fun i hi e => by have := HNewa.out i e; omega)
            have hM4 := HMa.out.kept hK4 (map_apart HPa.out HMa.out)
            have cz4 : W4.cell? ⟨sb, off + j, none⟩ = some (.int .i64 z) := (hK4.cell (p := ⟨sb, off + j, none⟩) (Nat.lt_of_lt_of_le hsb HFra.out.size) (fun e => by have h9 : w.heap.size ≤ sb := HNewa.out sb e; omega)).trans cz
            obtain ⟨W5, hdr, hM5, hg5⟩ := hM4.drop hwz 0
            have hK5 : Kept (only M) W4 W5 := (Kept.refl (only M) W4).grown hg5 (fun k _ e => by simp at e; exact e.symm)
            have hP5 := hP4.kept hK5 (fun k hk (e : k = M) => map_apart hP4 hM4 (by rw [← e]; exact hk))
            have hFr5 : Fresh w W5 := hFr4.trans hK5 (fun i hi (e : i = M) => by have := HMn.out; omega)
            have hln5 := fun n => (hM5.kept ((Kept.refl (fun _ => False) W5).drewN n) (fun e => e)).len
            have hNew5 : ∀ k, F4 k → w.heap.size ≤ k := fun k hk => by
              by_cases hkw : k < w2.heap.size
              · exact HNewa.out k (hF4 k hkw hk)
              · have := HFra.out.size; omega
            have HP5 : Hid (PoolAt W5 F4 b (gvL l z)) := hP5
            have HM5 : Hid (MapIs W5 M n (gvL l z)) := hM5
            have HFr5 : Hid (Fresh w W5) := hFr5
            have HNew5 : Hid (∀ k, F4 k → w.heap.size ≤ k) := hNew5
            have HUs := show Hid _ from (fun (_ : Unit) => used_any F4 b (gvL l z) W5 hP5)
            have HFe := show Hid _ from (fun n => free_any F4 b (gvL l z) (W5.drewN n) (hP5.drewN n))
            have hul5 := used_le (gvL l z)
            have HLen : Hid ((gvL l z).length = N) := hgl.trans HLn.out
            rw [hgl, HLn.out] at HFe
            rw [hgl, HLn.out] at hul5
            clear hP4 hM4 hK4 hFr4 hg5 hK5 hP5 hFr5 hNew5 hF4 hM5 HGv hgl
            have hu5 : ((N - used (gvL l z) : Nat) : Int) = (N : Int) - (used (gvL l z) : Int) := by omega
            rw [hu5] at HFe
            clear hu5
            generalize hgL5 : used (gvL l z) = u5 at *
            clear hgL5
            go_wp2_with fail
            refine (HUs.out ()).mono ?_
            rintro e W6 ⟨rfl, n6, rfl⟩
            have hln6 := hln5 n6
            go_wp2_with fail
            refine (HFe.out n6).mono ?_
            rintro e W7 ⟨rfl, n7, rfl⟩
            have hln7 := hln5 (n6 + n7)
            rw [← World.drewN_drewN] at hln7
            go_wp2
            go_roundw
            case rel => exact ⟨j + 1, by omega, by go_num, F4, n, gvL l z, ⟨HP5.out.drewN (n6 + n7), HM5.out.kept (S := fun _ => False) ((Kept.refl (fun _ => False) W5).drewN (n6 + n7)) (fun e => e), HNew5.out, HMn.out, HFr5.out.drewN (n6 + n7)⟩, HLen.out, by omega⟩
            case measure => simp [intOf]; omega
        · have hfl : fr l < l.length := fr_lt (by have := used_le l; omega)
          have e1 : tkI l = (fr l : Int) := by unfold tkI; rw [if_pos hfl]
          have e2 : tkE l = 0 := by unfold tkE; rw [if_pos hfl]
          have e3 : tkL l (j : Int) = l.set (fr l) (some (j : Int)) := by unfold tkL; rw [if_pos hfl]
          rw [e1, e2, e3] at htk
          have hno : l.getD (fr l) none = none := by
            rw [getD_some hfl]
            have h2 := List.findIdx_getElem (p := Option.isNone) (xs := l) (w := hfl)
            have h3 : (l[fr l]).isNone = true := h2
            cases hh : l[fr l] with
            | none => rfl
            | some y => rw [hh] at h3; simp at h3
          have hbe : ∀ i, i < fr l → ∃ y, l.getD i none = some y := fun i hi => by
            have h2 := List.not_of_lt_findIdx (p := Option.isNone) (xs := l) hi
            rw [getD_some (by omega)]
            cases hh : l[i] with
            | none => simp [hh] at h2
            | some y => exact ⟨y, rfl⟩
          have hun : ((used l : Int) == (N : Int)) = false := by have := HLn.out; simp; omega
          have hll := HLn.out
          have HLn2 : Hid ((l.set (fr l) (some (j : Int))).length = N) := by show _ = _; rw [List.length_set]; exact hll
          have HTk := show Hid _ from htk
          have HNo : Hid (l.getD (fr l) none = none) := hno
          have HBe : Hid (∀ i, i < fr l → ∃ y, l.getD i none = some y) := hbe
          have hfN : fr l < N := by omega
          have HFl : Hid (fr l < l.length) := hfl
          clear htk e1 e2 e3 hfu hno hbe hfl hll
          generalize fr l = k0 at *
          go_wp2_with fail
          refine (HTk.out ()).mono ?_
          rintro e w2 ⟨rfl, F2, hP2, hK2, hF2⟩
          have hM2 := HS.out.map.kept hK2 (map_apart HS.out.pool HS.out.map)
          have hFr2 : Fresh w w2 := HS.out.fr.trans hK2 (fun i hi e => by have := HS.out.new i e; omega)
          have hNew2 : ∀ k, F2 k → w.heap.size ≤ k := fun k hk => by
            by_cases hkw : k < wr.heap.size
            · exact HS.out.new k (hF2 k hkw hk)
            · have := HS.out.fr.size; omega
          have hlen := hM2.len
          have hlk0 := hM2.look (z := (k0 : Int)) (wf64 (by omega) (by omega))
          rw [gt_nat l k0 HFl.out, HNo.out] at hlk0
          simp only [Option.getD_none, Option.isSome_none] at hlk0
          obtain ⟨w3, hst, hM3, hg3⟩ := hM2.store (by unfold maxLen; omega) HFl.out (by rw [HLn.out]; omega) HNo.out (wf64 (z := (j : Int)) (by omega) (by omega))
          have hK3 : Kept (only M) w2 w3 := (Kept.refl (only M) w2).grown hg3 (fun k _ e => by simp at e; exact e.symm)
          have hP3 := hP2.kept hK3 (fun k hk (e : k = M) => map_apart hP2 hM2 (by rw [← e]; exact hk))
          have hFr3 : Fresh w w3 := hFr2.trans hK3 (fun i hi (e : i = M) => by have := HMn.out; omega)
          have HM2 : Hid (MapIs w2 M n l) := hM2
          have hlkI : ∀ i : Nat, i < k0 → ∃ y, (Instr.lookup 37 (.map (some M)) (.int .i64 (i : Int)) true).run Tryd.prog w2 = .ok (.tuple #[.int .i64 y, .bool true]) w2 := fun i hi => by
            obtain ⟨y, hy⟩ := HBe.out i hi
            have := HM2.out.look (z := (i : Int)) (wf64 (by omega) (by omega))
            rw [gt_nat l i (by have := HFl.out; omega), hy] at this
            exact ⟨y, this⟩
          have HLk := show Hid _ from hlkI
          have HPb : Hid (PoolAt w3 F2 b (l.set k0 (some (j : Int)))) := hP3
          have HMb : Hid (MapIs w3 M (n + 1) (l.set k0 (some (j : Int)))) := hM3
          have HFrb : Hid (Fresh w w3) := hFr3
          have HNewb : Hid (∀ k, F2 k → w.heap.size ≤ k) := hNew2
          clear hP2 hK2 hF2 hM2 hFr2 hNew2 hlkI hg3 hK3 hP3 hFr3 hM3
          generalize used l = u0 at *
          generalize l.set k0 (some (j : Int)) = l2 at *
          go_wp2
          go_loop [15] (fun i => ∃ i' : Nat, i' ≤ k0 ∧ i = .int .i64 (i' : Int)) (fun i => k0 - (intOf i).toNat)
          case atStart => exact ⟨0, Nat.zero_le _, rfl⟩
          case round =>
            obtain ⟨i', hi', rfl⟩ := hrel
            by_cases hik : i' < k0
            · obtain ⟨y, hly⟩ := HLk.out i' hik
              go_wp2
              go_round
              case rel => exact ⟨i' + 1, by omega, by go_num⟩
              case measure => simp [intOf]; omega
            · obtain rfl : i' = k0 := by omega
              -- the tail: what the map tells of the place, Give, delete, the counts
              obtain ⟨sb, off, cp, hv, cz, hwz, hsb⟩ := HG.out.at HFrb.out hlt
              cases hv
              generalize zs.getD j 0 = z at *
              have hll2 := HPb.out.len
              have hul := used_le l2
              have hgl := gvL_length l2 z
              cases hgz : gt l2 z with
              | none =>
                have hlk := HMb.out.look hwz
                have hgv := fun (_ : Unit) => give_gv F2 b l2 z w3 HPb.out
                have e1 : gvE l2 z = 51 := by unfold gvE; rw [hgz]; rfl
                rw [hgz] at hlk
                simp only [hgz, e1, Option.getD_none, Option.isSome_none] at hgv hlk
                have HGv := show Hid _ from hgv
                clear hgv
                have HGL : Hid (gt l2 z = gt l2 z) := rfl
                clear hgz e1 HGL
                go_wp2_with fail
                refine (HGv.out ()).mono ?_
                rintro e W4 ⟨rfl, F4, hP4, hK4, hF4⟩
                have hFr4 : Fresh w W4 := HFrb.out.trans hK4 (fun i hi e => by have := HNewb.out i e; omega)
                have hM4 := HMb.out.kept hK4 (map_apart HPb.out HMb.out)
                have cz4 : W4.cell? ⟨sb, off + j, none⟩ = some (.int .i64 z) := (hK4.cell (p := ⟨sb, off + j, none⟩) (Nat.lt_of_lt_of_le hsb HFrb.out.size) (fun e => by have h9 : w.heap.size ≤ sb := HNewb.out sb e; omega)).trans cz
                obtain ⟨W5, hdr, hM5, hg5⟩ := hM4.drop hwz 0
                have hK5 : Kept (only M) W4 W5 := (Kept.refl (only M) W4).grown hg5 (fun k _ e => by simp at e; exact e.symm)
                have hP5 := hP4.kept hK5 (fun k hk (e : k = M) => map_apart hP4 hM4 (by rw [← e]; exact hk))
                have hFr5 : Fresh w W5 := hFr4.trans hK5 (fun i hi (e : i = M) => by have := HMn.out; omega)
                have hln5 := fun n => (hM5.kept ((Kept.refl (fun _ => False) W5).drewN n) (fun e => e)).len
                have hNew5 : ∀ k, F4 k → w.heap.size ≤ k := fun k hk => by
                  by_cases hkw : k < w3.heap.size
                  · exact HNewb.out k (hF4 k hkw hk)
                  · have := HFrb.out.size; omega
                have HP5 : Hid (PoolAt W5 F4 b (gvL l2 z)) := hP5
                have HM5 : Hid (MapIs W5 M (n + 1) (gvL l2 z)) := hM5
                have HFr5 : Hid (Fresh w W5) := hFr5
                have HNew5 : Hid (∀ k, F4 k → w.heap.size ≤ k) := hNew5
                have HUs := show Hid _ from (fun (_ : Unit) => used_any F4 b (gvL l2 z) W5 hP5)
                have HFe := show Hid _ from (fun n => free_any F4 b (gvL l2 z) (W5.drewN n) (hP5.drewN n))
                have hul5 := used_le (gvL l2 z)
                have HLen : Hid ((gvL l2 z).length = N) := hgl.trans HLn2.out
                rw [hgl, HLn2.out] at HFe
                rw [hgl, HLn2.out] at hul5
                clear hP4 hM4 hK4 hFr4 hg5 hK5 hP5 hFr5 hNew5 hF4 hM5 HGv hgl
                have hu5 : ((N - used (gvL l2 z) : Nat) : Int) = (N : Int) - (used (gvL l2 z) : Int) := by omega
                rw [hu5] at HFe
                clear hu5
                generalize hgL5 : used (gvL l2 z) = u5 at *
                clear hgL5
                go_wp2_with fail
                refine (HUs.out ()).mono ?_
                rintro e W6 ⟨rfl, n6, rfl⟩
                have hln6 := hln5 n6
                go_wp2_with fail
                refine (HFe.out n6).mono ?_
                rintro e W7 ⟨rfl, n7, rfl⟩
                have hln7 := hln5 (n6 + n7)
                rw [← World.drewN_drewN] at hln7
                go_wp2
                go_roundw
                case rel => exact ⟨j + 1, by omega, by go_num, F4, n + 1, gvL l2 z, ⟨HP5.out.drewN (n6 + n7), HM5.out.kept (S := fun _ => False) ((Kept.refl (fun _ => False) W5).drewN (n6 + n7)) (fun e => e), HNew5.out, HMn.out, HFr5.out.drewN (n6 + n7)⟩, HLen.out, by omega⟩
                case measure => simp [intOf]; omega
              | some a =>
                have hlk := HMb.out.look hwz
                have hgv := fun (_ : Unit) => give_gv F2 b l2 z w3 HPb.out
                have e1 : gvE l2 z = 0 := by unfold gvE; rw [hgz]; rfl
                rw [hgz] at hlk
                simp only [hgz, e1, Option.getD_some, Option.isSome_some] at hgv hlk
                have HGv := show Hid _ from hgv
                clear hgv
                have HGL : Hid (gt l2 z = gt l2 z) := rfl
                clear hgz e1 HGL
                go_wp2_with fail
                refine (HGv.out ()).mono ?_
                rintro e W4 ⟨rfl, F4, hP4, hK4, hF4⟩
                have hFr4 : Fresh w W4 := HFrb.out.trans hK4 (fun i hi e => by have := HNewb.out i e; omega)
                have hM4 := HMb.out.kept hK4 (map_apart HPb.out HMb.out)
                have cz4 : W4.cell? ⟨sb, off + j, none⟩ = some (.int .i64 z) := (hK4.cell (p := ⟨sb, off + j, none⟩) (Nat.lt_of_lt_of_le hsb HFrb.out.size) (fun e => by have h9 : w.heap.size ≤ sb := HNewb.out sb e; omega)).trans cz
                obtain ⟨W5, hdr, hM5, hg5⟩ := hM4.drop hwz 0
                have hK5 : Kept (only M) W4 W5 := (Kept.refl (only M) W4).grown hg5 (fun k _ e => by simp at e; exact e.symm)
                have hP5 := hP4.kept hK5 (fun k hk (e : k = M) => map_apart hP4 hM4 (by rw [← e]; exact hk))
                have hFr5 : Fresh w W5 := hFr4.trans hK5 (fun i hi (e : i = M) => by have := HMn.out; omega)
                have hln5 := fun n => (hM5.kept ((Kept.refl (fun _ => False) W5).drewN n) (fun e => e)).len
                have hNew5 : ∀ k, F4 k → w.heap.size ≤ k := fun k hk => by
                  by_cases hkw : k < w3.heap.size
                  · exact HNewb.out k (hF4 k hkw hk)
                  · have := HFrb.out.size; omega
                have HP5 : Hid (PoolAt W5 F4 b (gvL l2 z)) := hP5
                have HM5 : Hid (MapIs W5 M (n + 1) (gvL l2 z)) := hM5
                have HFr5 : Hid (Fresh w W5) := hFr5
                have HNew5 : Hid (∀ k, F4 k → w.heap.size ≤ k) := hNew5
                have HUs := show Hid _ from (fun (_ : Unit) => used_any F4 b (gvL l2 z) W5 hP5)
                have HFe := show Hid _ from (fun n => free_any F4 b (gvL l2 z) (W5.drewN n) (hP5.drewN n))
                have hul5 := used_le (gvL l2 z)
                have HLen : Hid ((gvL l2 z).length = N) := hgl.trans HLn2.out
                rw [hgl, HLn2.out] at HFe
                rw [hgl, HLn2.out] at hul5
                clear hP4 hM4 hK4 hFr4 hg5 hK5 hP5 hFr5 hNew5 hF4 hM5 HGv hgl
                have hu5 : ((N - used (gvL l2 z) : Nat) : Int) = (N : Int) - (used (gvL l2 z) : Int) := by omega
                rw [hu5] at HFe
                clear hu5
                generalize hgL5 : used (gvL l2 z) = u5 at *
                clear hgL5
                go_wp2_with fail
                refine (HUs.out ()).mono ?_
                rintro e W6 ⟨rfl, n6, rfl⟩
                have hln6 := hln5 n6
                go_wp2_with fail
                refine (HFe.out n6).mono ?_
                rintro e W7 ⟨rfl, n7, rfl⟩
                have hln7 := hln5 (n6 + n7)
                rw [← World.drewN_drewN] at hln7
                go_wp2
                go_roundw
                case rel => exact ⟨j + 1, by omega, by go_num, F4, n + 1, gvL l2 z, ⟨HP5.out.drewN (n6 + n7), HM5.out.kept (S := fun _ => False) ((Kept.refl (fun _ => False) W5).drewN (n6 + n7)) (fun e => e), HNew5.out, HMn.out, HFr5.out.drewN (n6 + n7)⟩, HLen.out, by omega⟩
                case measure => simp [intOf]; omega
      · obtain rfl : j = zs.length := by omega
        have HFr : Hid (Fresh w wr) := HS.out.fr
        go_wp2
        go_ret
        exact ⟨rfl, HFr.out⟩
  · go_enter Tryd.func5, Tryd.ntmps5
    go_wp2_with fail
    refine (begun_bad P w hT hN).mono ?_
    rintro e w1 ⟨v1, rfl, hF1⟩
    clear hN
    go_wp2
    go_ret
    exact ⟨rfl, hF1⟩
end Go.Proofs.YtomikgnifbgfiaaDoor
