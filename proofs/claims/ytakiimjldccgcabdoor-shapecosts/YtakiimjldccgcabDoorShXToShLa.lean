/-
  A small model is made, and is valid.
-/
import Derived.Test.YtakiimjldccgcabDoorShWToShP
import Derived.Test.YtakiimjldccgcabDoorShQToShS
import Derived.Test.YtakiimjldccgcabDoorFilToShA
import Derived.Test.YtakiimjldccgcabDoorVcNToFrQ
import Derived.Lib.SmallJoins
import Derived.Test.YtakiimjldccgcabDoorRoaToGr2
import Derived.Test.YtakiimjldccgcabDoorRoeToSfm
import Derived.Test.YtakiimjldccgcabDoorTie
import Derived.Test.YtakiimjldccgcabDoorCards
import Derived.LaidSub
namespace Go.Proofs.YtakiimjldccgcabDoor
open Go.RowKit Go.Lib Go.Maps

def tinyS : Shp := ⟨3, 4, 2, 1, 1, 2⟩
theorem tiny_rsh : Rsh tinyS 3 4 2 1 2 1 := ⟨by decide, rfl, rfl, rfl, rfl, rfl, by decide, by decide, by decide, by decide, by decide, by decide, by decide⟩
def tinyM : Md := smF tinyS 3 4 2 1 2 1 0 (smTs 3) []
theorem mg_nil (p : Nat → Prop) (W : World) : MgR p W nil8 [] := ⟨none, 0, rfl, fun _ => rfl, Nat.le_refl _, fun _ h => absurd h (Nat.not_lt_zero _), fun h => absurd h (Nat.not_lt_zero _)⟩
theorem tiny_any (w : World) : Calls Tryd.prog 21 #[] w fun e w' => e = .returned tinyS.val ∧ Fresh w w' := by
  unfold tinyS Shp.val
  go_enter Tryd.func21, Tryd.ntmps21
  go_wp2
  exact ret_cell rfl w.heap.size _ _ (0, 0) _ rfl (heap_alloc_new w _) Tryd.underlying23 rfl (by kernel_rfl) rfl ⟨rfl, (Kept.refl _ w).alloc _⟩
theorem tiny_valid : vdF tinyM = (0, 0, 0) := by decide +kernel
theorem tiny_first : tinyM.E.length = 6 ∧ tinyM.E.getD 0 0 = 20 := by decide +kernel
theorem tiny_num : shN tinyS = 310 ∧ shE tinyS = 0 ∧ shH tinyS = 1 := by decide +kernel
theorem tinySample_any (w : World) (hS : Sin w) (hB : Bend w) : Calls Tryd.prog 20 #[tinyS.val, zV 0] w fun e w' => ∃ tv mv ev cv sv bv bev gv uv, e = .returned (.tuple #[.agg (mdlC tinyS tv mv ev 2 cv sv bv bev gv uv (4 + (dbF 2 : Int))), zV 0]) ∧ MdC (fun b => w.heap.size ≤ b) w' tinyM tv mv ev cv sv bv bev gv uv ∧ Fresh w w' :=
  Sample_any tinyS 3 4 2 1 2 1 0 w tiny_rsh hS hB (smTs 3) [] (fun X => (sampleVocab_any 3 X (by omega) (by omega)).mono fun e w' ⟨tv, h1, h2, h3⟩ => ⟨tv, _, h1, h2.mono (fun b hb => hb.1), mg_nil _ _, h3⟩) (fun h => absurd h (Nat.not_lt_zero _))
set_option maxHeartbeats 1000000 in
set_option maxRecDepth 100000 in
theorem awake_any (w : World) (hS : Sin w) (hB : Bend w) : Calls Tryd.prog 5 #[] w fun e w' => e = .returned (.bool true) ∧ Fresh w w' := by
  have HT : Hid (∀ X, _) := tiny_any
  have HSM : Hid (∀ X, Fresh w X → _) := fun X hX => tinySample_any X (hS.fresh hX) (hB.fresh hX)
  have HV : Hid (∀ (p : Nat → Prop) (tv mv ev cv sv bv bev gv uv : Value) (X : World), MdC p X tinyM tv mv ev cv sv bv bev gv uv → Calls Tryd.prog 18 #[.agg (mdlC tinyS tv mv ev 2 cv sv bv bev gv uv (4 + (dbF 2 : Int)))] X fun e w' => e = .returned (.tuple #[.agg #[zV 0, zV 0], zV 0]) ∧ Fresh X w') := fun p tv mv ev cv sv bv bev gv uv X h => by
    have h2 := Valid_any tinyM tv mv ev cv sv bv bev gv uv X h
    rw [tiny_valid] at h2
    exact h2
  have HN : Hid (∀ X, Calls Tryd.prog 22 #[tinyS.val] X fun e w' => e = .returned (.tuple #[zV 310, zV 0]) ∧ Fresh X w') := fun X => by
    have h := Numbers_any tinyS X
    rw [tiny_num.1, tiny_num.2.1] at h
    exact h
  have HH : Hid (∀ X, Calls Tryd.prog 23 #[tinyS.val] X fun e w' => e = .returned (zV 1) ∧ Fresh X w') := fun X => by
    have h := Half_any tinyS X
    rw [tiny_num.2.2] at h
    exact h
  have HE : Hid (∀ (p : Nat → Prop) (tv mv ev cv sv bv bev gv uv : Value) (X : World), MdC p X tinyM tv mv ev cv sv bv bev gv uv → ∃ eb eo ec, ev = .slice (some ⟨eb, eo, none⟩) 6 ec ∧ 6 ≤ ec ∧ ∀ Y, Fresh X Y → Y.cell? ⟨eb, eo, none⟩ = some (.int .i8 20)) := fun p tv mv ev cv sv bv bev gv uv X h => by
    obtain ⟨ao, cap, rfl, _, hc⟩ := h.e.shape
    obtain ⟨_, _, _, h4⟩ := h.e.cells
    rw [tiny_first.1] at h4 hc ⊢
    obtain ⟨b, off, rfl, _, hb, h5⟩ := h4 (by omega)
    refine ⟨b, off, cap, rfl, hc, fun Y hY => ?_⟩
    have h6 := h5 0 (by omega)
    rw [tiny_first.2] at h6
    exact (hY.cell (p := ⟨b, off, none⟩) hb (fun e => e)).trans h6
  obtain ⟨ls, hls⟩ : ∃ ls : Int, 4 + (dbF 2 : Int) = ls := ⟨_, rfl⟩
  rw [hls] at HSM HV
  clear hls hS hB
  have hval : tinyS.val = .agg #[zV 3, zV 4, zV 2, zV 1, zV 1, zV 2] := rfl
  rw [hval] at HT HSM HN HH
  clear hval
  go_enter Tryd.func5, Tryd.ntmps5
  go_wp2_with fail
  refine Calls.mono (HT.out _) ?_
  rintro e X1 ⟨rfl, hf1⟩
  have HF1 : Hid (Fresh w X1) := hf1
  clear hf1
  go_wp2_with fail
  refine Calls.mono (HSM.out X1 HF1.out) ?_
  rintro e X2 ⟨tv, mv, ev, cv, sv, bv, bev, gv, uv, rfl, hm, hf2⟩
  have HF2 : Hid (Fresh w X2) := HF1.out.trans hf2 (fun _ _ e => e)
  obtain ⟨eb, eo, ec, rfl, hec, he0⟩ := HE.out _ _ _ _ _ _ _ _ _ _ _ hm
  obtain ⟨to1, tc, rfl⟩ := hm.tx.shape
  obtain ⟨mo, mc, rfl⟩ := hm.mg.shape
  obtain ⟨co, cc, rfl, _⟩ := hm.c.shape
  obtain ⟨so, sc, rfl, _⟩ := hm.s.shape
  obtain ⟨bo, bc, rfl⟩ := hm.b.shape
  obtain ⟨beo, bec, rfl, _⟩ := hm.be.shape
  obtain ⟨go, gc, rfl, _⟩ := hm.g.shape
  obtain ⟨uo, uc, rfl, _⟩ := hm.u.shape
  have HVX := show Hid _ from fun Y (hY : Fresh X2 Y) => HV.out _ _ _ _ _ _ _ _ _ _ Y (hm.fresh hY)
  have HE0 : Hid (∀ Y, Fresh X2 Y → _) := he0
  clear hm hf2 HE HV HSM he0
  generalize tinyM.T.length = n1 at *
  generalize tinyM.M.length = n2 at *
  generalize tinyM.C.length = n3 at *
  generalize tinyM.S.length = n4 at *
  generalize tinyM.L.length = n5 at *
  generalize tinyM.B.length = n6 at *
  generalize tinyM.G.length = n7 at *
  generalize tinyM.U.length = n8 at *
  obtain ⟨cs, hcs⟩ : ∃ cs, mdlC tinyS (.slice to1 n1 tc) (.slice mo n2 mc) (.slice (some ⟨eb, eo, none⟩) 6 ec) 2 (.slice co n3 cc) (.slice so n4 sc) (.slice bo n5 bc) (.slice beo n6 bec) (.slice go n7 gc) (.slice uo n8 uc) ls = cs := ⟨_, rfl⟩
  have k8 : cs[8]? = some (.slice (some ⟨eb, eo, none⟩) 6 ec) := by rw [← hcs]; rfl
  have HC : Hid (cs.size = 17 ∧ cs.all (·.oneCell') = true) := by rw [← hcs]; exact ⟨rfl, by simp [mdlC, Value.oneCell']⟩
  rw [hcs] at HVX ⊢
  clear hcs
  have hnew := heap_alloc_new X2 (.cells mdl0 48)
  unfold mdl0 at hnew
  go_upto_region 2 with (refine list_store rfl 48 _ _ rfl X2.heap.size _ _ 48 rfl rfl hnew HC.out.1.symm (by rw [HC.out.1]; exact mdlSize) HC.out.2 ?_; intro V hV hkV)
  have HFV : Hid (Fresh X2 V) := newAt (Kept.refl _ X2) hkV
  have x8 : V.cell? ⟨X2.heap.size, 8, none⟩ = some (.slice (some ⟨eb, eo, none⟩) 6 ec) := by rw [Lib.cell_of_heap hV]; exact k8
  have e0 := HE0.out V HFV.out
  have HLM : Hid ((loadVar 48 ⟨X2.heap.size, 0, none⟩).run Tryd.prog V = .ok (.agg cs) V) := run_loadVar_row V X2.heap.size 48 48 cs _ _ hV Tryd.underlying48 rfl (by rw [HC.out.1]; exact mdlSize)
  clear hV hkV hnew
  go_upto_region 4 with fail
  clear x8 e0
  go_wp2_with (refine wpList_loadAt rfl 48 _ rfl X2.heap.size 0 rfl cs HLM.out ?_)
  refine Calls.mono (HVX.out V HFV.out) ?_
  rintro e X3 ⟨rfl, hf3⟩
  have HF3 : Hid (Fresh w X3) := (HF2.out.trans HFV.out (fun _ _ e => e)).trans hf3 (fun _ _ e => e)
  clear hf3 HLM HFV HVX HE0
  go_wp2_with fail
  refine Calls.mono (HT.out _) ?_
  rintro e X4 ⟨rfl, hf4⟩
  have HF4 : Hid (Fresh w X4) := HF3.out.trans hf4 (fun _ _ e => e)
  clear hf4
  go_wp2_with fail
  refine Calls.mono (HN.out _) ?_
  rintro e X5 ⟨rfl, hf5⟩
  have HF5 : Hid (Fresh w X5) := HF4.out.trans hf5 (fun _ _ e => e)
  clear hf5
  go_wp2_with fail
  refine Calls.mono (HT.out _) ?_
  rintro e X6 ⟨rfl, hf6⟩
  have HF6 : Hid (Fresh w X6) := HF5.out.trans hf6 (fun _ _ e => e)
  clear hf6
  go_wp2_with fail
  refine Calls.mono (HH.out _) ?_
  rintro e X7 ⟨rfl, hf7⟩
  have HF7 : Hid (Fresh w X7) := HF6.out.trans hf7 (fun _ _ e => e)
  clear hf7
  go_wp2
  go_ret
  exact ⟨rfl, HF7.out⟩
end Go.Proofs.YtakiimjldccgcabDoor

/-
  A shape that is handed in.
-/
namespace Go.Proofs.YtakiimjldccgcabDoor
open Go.RowKit Go.Lib Go.Maps Go.ChangeShapes Go.WideShapes Go.ChangeAt

theorem array6 {α : Type} {cs : Array α} (h : cs.size = 6) : ∃ c0 c1 c2 c3 c4 c5, cs = #[c0, c1, c2, c3, c4, c5] := by
  obtain ⟨l⟩ := cs
  match l, h with
  | [c0, c1, c2, c3, c4, c5], _ => exact ⟨c0, c1, c2, c3, c4, c5, rfl⟩
set_option maxRecDepth 100000 in
theorem shp_of {H : Type} {enc : TypeId × Value → H} {W : World} {r : Reach} {b0 : Nat} {v : Value} {d : DataW H} {p : List MemPlace} (hv : Value.okWide Tryd.prog W r b0 23 v) (h : DataW.Trod enc Tryd.prog W 0 (fun _ => true) true 23 v d p) : ∃ s : Shp, v = s.val ∧ s.Ok := by
  obtain ⟨cs, rfl, hsz⟩ := okWide_struct Tryd.underlying23 hv
  obtain ⟨c0, c1, c2, c3, c4, c5, rfl⟩ := array6 (hsz.trans (by kernel_rfl))
  obtain ⟨fuel, hf⟩ := h
  obtain ⟨xs, n, _, _, hl, hlen, hg⟩ := DataW.trod_struct Tryd.underlying23 hf
  have ci : Tryd.prog.cellsOf 3 = 1 := by kernel_rfl
  match xs, hlen with
  | [y0, y1, y2, y3, y4, y5], _ =>
    have g0 : DataW.trod enc Tryd.prog W 0 (fun _ => true) true n 3 [c0] = some y0 := by simpa [Value.cells, ci] using hg 0 _ rfl
    have g1 : DataW.trod enc Tryd.prog W 0 (fun _ => true) true n 3 [c1] = some y1 := by simpa [Value.cells, ci] using hg 1 _ rfl
    have g2 : DataW.trod enc Tryd.prog W 0 (fun _ => true) true n 3 [c2] = some y2 := by simpa [Value.cells, ci] using hg 2 _ rfl
    have g3 : DataW.trod enc Tryd.prog W 0 (fun _ => true) true n 3 [c3] = some y3 := by simpa [Value.cells, ci] using hg 3 _ rfl
    have g4 : DataW.trod enc Tryd.prog W 0 (fun _ => true) true n 3 [c4] = some y4 := by simpa [Value.cells, ci] using hg 4 _ rfl
    have g5 : DataW.trod enc Tryd.prog W 0 (fun _ => true) true n 3 [c5] = some y5 := by simpa [Value.cells, ci] using hg 5 _ rfl
    obtain ⟨x0, e0, _, w0⟩ := DataW.trod_int Tryd.underlying3 g0
    obtain ⟨x1, e1, _, w1⟩ := DataW.trod_int Tryd.underlying3 g1
    obtain ⟨x2, e2, _, w2⟩ := DataW.trod_int Tryd.underlying3 g2
    obtain ⟨x3, e3, _, w3⟩ := DataW.trod_int Tryd.underlying3 g3
    obtain ⟨x4, e4, _, w4⟩ := DataW.trod_int Tryd.underlying3 g4
    obtain ⟨x5, e5, _, w5⟩ := DataW.trod_int Tryd.underlying3 g5
    simp only [List.cons.injEq, and_true] at e0 e1 e2 e3 e4 e5
    subst e0 e1 e2 e3 e4 e5
    exact ⟨⟨x0, x1, x2, x3, x4, x5⟩, rfl, i64_of w0, i64_of w1, i64_of w2, i64_of w3, i64_of w4, i64_of w5⟩
end Go.Proofs.YtakiimjldccgcabDoor

/-
  The sines and the constants of Exp2, as the program's text lays them.
-/
namespace Go.Proofs.YtakiimjldccgcabDoor
open Go.ChangeShapes Go.WideShapes Go.ChangeAt Go.RowKit Go.Lib Go.Maps

theorem gSin : Tryd.prog.globalNamed (Rows.shapeCostsRow.named.headD "") = some 0 := by kernel_rfl
theorem gSinType : (Tryd.prog.globals[0]?).map (·.type) = some 187 := by kernel_rfl
theorem gBend : Tryd.prog.globalNamed (Rows.shapeCostsRow.named.getD 1 "") = some 1 := by kernel_rfl
theorem gBendType : (Tryd.prog.globals[1]?).map (·.type) = some 189 := by kernel_rfl
theorem bend_of_laid {W : World} (h : laidMetH Tryd.prog Rows.shapeCostsRow.laid W) : Bend W := by
  have ht : Lib.TabIs Tryd.prog W (Rows.shapeCostsRow.named.getD 1 "") .i64 [84941200, 241400000, 747400624] := Lib.tabIs_of_head (rest := Rows.shapeCostsRow.laid.tail) gBend gBendType Tryd.underlying189 Tryd.underlying2 (by kernel_rfl) (by kernel_rfl) h
  exact ⟨ht.cell gBend 0 (by decide), ht.cell gBend 1 (by decide), ht.cell gBend 2 (by decide)⟩
theorem sin_of_laid {W : World} (h : laidMetH Tryd.prog Rows.shapeCostsRow.laid W) : Sin W := by
  have h2 := laidMetH.filter (fun x => x.1 == Rows.shapeCostsRow.named.headD "") h
  have ht : Lib.TabIs Tryd.prog W (Rows.shapeCostsRow.named.headD "") .i8 sT := Lib.tabIs_of_head (rest := []) gSin gSinType Tryd.underlying187 Tryd.underlying68 (by kernel_rfl) (by kernel_rfl) h2
  exact fun i hi => ht.cell gSin i hi
end Go.Proofs.YtakiimjldccgcabDoor
