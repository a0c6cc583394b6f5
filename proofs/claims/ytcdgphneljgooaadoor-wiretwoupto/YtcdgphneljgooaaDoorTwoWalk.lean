/-
  For every pair of scripts and of texts (of bulk together at most 1048576) the statement WireTwo answers true: two writers and two readers in turns know nothing of one another: the walk.
-/
import Derived.Test.YtcdgphneljgooaaDoorTwo
import Derived.BigQuiet
import Derived.Deep.QuietTactic
import Derived.Deep.RegionWith
namespace Go.Proofs.YtcdgphneljgooaaDoor.Two
open Go.ChangeShapes Go.WideShapes Go.ChangeAt Go.RowKit

theorem add_toArray (a : List UInt8) (b : ByteArray) : (⟨a.toArray⟩ : ByteArray) ++ b = ⟨(a ++ b.data.toList).toArray⟩ := by
  apply ByteArray.ext
  simp
theorem size_toArray (a : List UInt8) : (⟨a.toArray⟩ : ByteArray).size = a.length := by simp [ByteArray.size]

/-- What holds between two rounds. -/
def Rel (w : World) (A1 A2 R1 R2 M1 M2 : Nat) (s t : ByteArray) (l1 l2 : List OpD) (a1 a2 c : Value) (wr : World) : Prop :=
  ∃ j : Nat, (j ≤ l1.length ∨ j ≤ l2.length) ∧ c = .int .i64 j ∧ ∃ u1 u2 b1 b2 i1 i2, a1 = .string ⟨b1.toArray⟩ ∧ a2 = .string ⟨b2.toArray⟩ ∧ b1.length ≤ room (l1.take j) ∧ b2.length ≤ room (l2.take j) ∧ St w wr A1 A2 R1 R2 M1 M2 s t u1 u2 b1 b2 i1 i2

set_option maxHeartbeats 4000000 in
set_option maxRecDepth 100000 in
theorem walk (v1 v2 : Value) (s t : ByteArray) (l1 l2 : List OpD) (w : World) (hz : Siz w) (hs1 : ScriptIs w.heap.size w v1 l1) (hs2 : ScriptIs w.heap.size w v2 l2) (hm1 : room l1 ≤ 100000000) (hm2 : room l2 ≤ 100000000) (hst : s.size ≤ 100000000) (htt : t.size ≤ 100000000) :
    Calls Tryd.prog 8 #[.agg #[v1, v2, .string s, .string t]] w fun e w' => e = .returned (.bool true) ∧ Fresh w w' := by
  obtain ⟨ao1, cap1, rfl, hlen1, hcell1, hfits1⟩ := hs1
  obtain ⟨ao2, cap2, rfl, hlen2, hcell2, hfits2⟩ := hs2
  go_enter Tryd.func8, Tryd.ntmps8
  go_wp2_with fail
  go_quiet (fail)
  have hf0 : Fresh w ((w.alloc (.cells #[.slice ao1 l1.length cap1, .slice ao2 l2.length cap2, .string s, .string t] 65)).drewN nq) := ((Kept.refl _ w).alloc _).drewN nq
  generalize ((w.alloc (.cells #[.slice ao1 l1.length cap1, .slice ao2 l2.length cap2, .string s, .string t] 65)).drewN nq) = W0 at *
  go_wp2_with fail
  refine (newWriter_any _).mono ?_
  rintro e w1 ⟨rfl, hw1, hk1⟩
  go_wp2_with fail
  refine (newWriter_any _).mono ?_
  rintro e w2 ⟨rfl, hw2, hk2⟩
  go_wp2_with fail
  refine (newReader_any s _ (by omega)).mono ?_
  rintro e w3 ⟨R1, rfl, hR1, hr1, hk3⟩
  go_wp2_with fail
  refine (newReader_any t _ (by omega)).mono ?_
  rintro e w4 ⟨R2, rfl, hR2, hr2, hk4⟩
  have hk04 : Fresh w w4 := (((hf0.trans hk1 (fun _ _ e => e)).trans hk2 (fun _ _ e => e)).trans hk3 (fun _ _ e => e)).trans hk4 (fun _ _ e => e)
  go_wp2_with fail
  refine (awake_any _ (hz.kept hk04 (fun e => e))).mono ?_
  rintro e w5 ⟨rfl, hk5⟩
  have hA1 := lt_of_heap hw1.1
  have hA2 := lt_of_heap hw2.1
  have hR1l := lt_of_heap hr1.1
  have hR2l := lt_of_heap hr2.1
  have z0 := hf0.size
  have z2 := hk2.size
  have z3 := hk3.size
  have z4 := hk4.size
  have z5 := hk5.size
  have k25 : Fresh w2 w5 := (hk3.trans hk4 (fun _ _ e => e)).trans hk5 (fun _ _ e => e)
  have k15 : Fresh w1 w5 := hk2.trans k25 (fun _ _ e => e)
  have k35 : Fresh w3 w5 := hk4.trans hk5 (fun _ _ e => e)
  have hst5 : St w ((w5.alloc (.cells #[.string s, .int .i64 ((0 : Nat) : Int)] 51)).alloc (.cells #[.string t, .int .i64 ((0 : Nat) : Int)] 51)) W0.heap.size w1.heap.size R1 R2 w5.heap.size (w5.heap.size + 1) s t (.slice none 0 0) (.slice none 0 0) [] [] 0 0 := by
    have k5 := ((Kept.refl (fun _ => False) w5).alloc (.cells #[.string s, .int .i64 ((0 : Nat) : Int)] 51)).alloc (.cells #[.string t, .int .i64 ((0 : Nat) : Int)] 51)
    obtain ⟨b0, b1⟩ := two_blocks (Kept.refl (fun _ => False) ((w5.alloc (.cells #[.string s, .int .i64 ((0 : Nat) : Int)] 51)).alloc (.cells #[.string t, .int .i64 ((0 : Nat) : Int)] 51)))
    exact ⟨(hw1.kept k15 (fun e => e) (fun _ _ e => e)).kept k5 (fun e => e) (fun _ _ e => e), (hw2.kept k25 (fun e => e) (fun _ _ e => e)).kept k5 (fun e => e) (fun _ _ e => e), (hr1.kept k35 (fun e => e)).kept k5 (fun e => e), (hr2.kept hk5 (fun e => e)).kept k5 (fun e => e), b0, b1, by simp [Value.ownBlock], by simp [Value.ownBlock], by simp [Value.ownBlock], (hk04.trans hk5 (fun _ _ e => e)).trans k5 (fun _ _ e => e)⟩
  have nA : W0.heap.size ≠ w1.heap.size := by omega
  have nR : R1 ≠ R2 := by omega
  have nM : w5.heap.size ≠ w5.heap.size + 1 := by omega
  have gA1 : w.heap.size ≤ W0.heap.size := z0
  have gA2 : w.heap.size ≤ w1.heap.size := by omega
  have gR1 : w.heap.size ≤ R1 := by omega
  have gR2 : w.heap.size ≤ R2 := by omega
  have gM1 : w.heap.size ≤ w5.heap.size := by omega
  have gM2 : w.heap.size ≤ w5.heap.size + 1 := by omega
  clear k25 k15 k35 hk1 hk2 hk3 hk4 hk5 hw1 hw2 hr1 hr2 hk04 hf0
  go_wp2
  generalize W0.heap.size = A1 at *
  generalize w1.heap.size = A2 at *
  generalize hM2 : w5.heap.size + 1 = M2 at *
  clear hM2
  generalize w5.heap.size = M1 at *
  go_loopw [11, 12, 15] (fun a1 a2 c wr => Rel w A1 A2 R1 R2 M1 M2 s t l1 l2 a1 a2 c wr) (fun _ _ c _ => max l1.length l2.length - (intOf c).toNat)
  case atStart => exact ⟨0, .inl (Nat.zero_le _), rfl, _, _, [], [], 0, 0, rfl, rfl, by simp, by simp, hst5⟩
  case round =>
    obtain ⟨j, hj, rfl, u1, u2, b1, b2, i1, i2, rfl, rfl, hb1, hb2, hSt⟩ := hrel
    have hj0 : (0 : Int) ≤ (j : Int) := by omega
    by_cases hlt1 : j < l1.length
    · by_cases hlt2 : j < l2.length
      · skip
        obtain ⟨ob1, off1, hao1, hob1, hob1', hcl1⟩ := hcell1 (fun e => by rw [e] at hlt1; simp at hlt1)
        obtain ⟨c10, c11, c12, c13, c14⟩ := hcl1 j hlt1
        have hfit1 := hfits1 l1[j] (List.getElem_mem hlt1)
        have hrt1 := room_take_succ l1 j hlt1
        have hrl1 := room_take_le l1 (j + 1)
        obtain ⟨_, _, hrow1, hss1⟩ := hfit1
        obtain ⟨rao1, rcap1, hrv1, _⟩ := hrow1
        rw [hrv1] at c13
        have hro1 : l1[j].s.size + 16 ≤ l1[j].room := by unfold OpD.room; omega
        generalize l1[j].room = rm1 at *
        generalize l1[j].zs.length = zl1 at *
        generalize l1[j].k = ok1 at *
        generalize l1[j].n = on1 at *
        generalize l1[j].b = obt1 at *
        generalize l1[j].s = tx1 at *
        subst hao1
        have hjl1 : (j : Int) < (l1.length : Int) := by omega
        clear hcl1 hrv1 hcell1 hfits1
        obtain ⟨ob2, off2, hao2, hob2, hob2', hcl2⟩ := hcell2 (fun e => by rw [e] at hlt2; simp at hlt2)
        obtain ⟨c20, c21, c22, c23, c24⟩ := hcl2 j hlt2
        have hfit2 := hfits2 l2[j] (List.getElem_mem hlt2)
        have hrt2 := room_take_succ l2 j hlt2
        have hrl2 := room_take_le l2 (j + 1)
        obtain ⟨_, _, hrow2, hss2⟩ := hfit2
        obtain ⟨rao2, rcap2, hrv2, _⟩ := hrow2
        rw [hrv2] at c23
        have hro2 : l2[j].s.size + 16 ≤ l2[j].room := by unfold OpD.room; omega
        generalize l2[j].room = rm2 at *
        generalize l2[j].zs.length = zl2 at *
        generalize l2[j].k = ok2 at *
        generalize l2[j].n = on2 at *
        generalize l2[j].b = obt2 at *
        generalize l2[j].s = tx2 at *
        subst hao2
        have hjl2 : (j : Int) < (l2.length : Int) := by omega
        clear hcl2 hrv2 hcell2 hfits2
        have ec1 : ∀ i, wr.cell? ⟨ob1, i, none⟩ = w.cell? ⟨ob1, i, none⟩ := fun i => hSt.fr.cell (p := ⟨ob1, i, none⟩) hob1' (fun e => e)
        have d14 := (ec1 _).trans c14
        clear ec1
        go_wp2_with fail
        refine (wraw_any _ u1 b1 tx1 _ hSt.w1 (by omega)).mono ?_
        rintro e X1 ⟨rfl, v1, hw1', hk1', hm1'⟩
        have hS1 := hSt.raw nA gA1 hw1' hk1' hm1'
        clear d14
        have ec1 : ∀ i, X1.cell? ⟨ob1, i, none⟩ = w.cell? ⟨ob1, i, none⟩ := fun i => hS1.fr.cell (p := ⟨ob1, i, none⟩) hob1' (fun e => e)
        have d10 := (ec1 _).trans c10
        have d11 := (ec1 _).trans c11
        have d12 := (ec1 _).trans c12
        have d13 := (ec1 _).trans c13
        have d14 := (ec1 _).trans c14
        clear ec1 hw1' hk1' hm1'
        have hadd1 := add_toArray b1 tx1
        have hsz1 := size_toArray b1
        have hll1 : (b1 ++ tx1.data.toList).length = b1.length + tx1.size := by rw [List.length_append, ← Lib.size_eq]
        generalize b1 ++ tx1.data.toList = bb1 at *
        obtain ⟨p10, p11, p12, p13⟩ := cells2 hS1.m1
        have hzX1 : Siz X1 := hz.kept hS1.fr (fun e => e)
        have nMR1 := ne_type hS1.m1 hS1.r1.1 (by decide)
        have hmm1 := hS1.m1
        go_wp2_with fail
        go_region_with (first | (go_at_call 25; refine (read_any R1 s i1 ok1 on1 obt1 rao1 zl1 rcap1 tx1 _ (by exact hzX1) (by exact hS1.r1) (by omega)).mono ?_; rintro e Y1 ⟨i1', rfl, hr1', hk1''⟩; obtain ⟨y10, y11, y12, y13⟩ := cells2 (hk1''.at hmm1 nMR1)))
        all_goals
          have hT1 := hS1.read nR nM gR1 gM1 hr1' (Kept.undrew hk1'')
          clear hS1 p10 p11 p12 p13 nMR1 hmm1 hzX1 d10 d11 d12 d13 d14 hr1' hk1'' hadd1 hsz1
          generalize ((Y1.setCell ⟨M1, 0, none⟩ (.string s)).setCell ⟨M1, 1, none⟩ (.int .i64 (i1' : Int))) = Z1 at *
          have ec2 : ∀ i, Z1.cell? ⟨ob2, i, none⟩ = w.cell? ⟨ob2, i, none⟩ := fun i => hT1.fr.cell (p := ⟨ob2, i, none⟩) hob2' (fun e => e)
          have d24 := (ec2 _).trans c24
          clear ec2
          go_wp2_with fail
          refine (wraw_any _ u2 b2 tx2 _ hT1.swap.w1 (by omega)).mono ?_
          rintro e X2 ⟨rfl, v2, hw2', hk2', hm2'⟩
          have hS2 := hT1.swap.raw nA.symm gA2 hw2' hk2' hm2'
          clear d24
          have ec2 : ∀ i, X2.cell? ⟨ob2, i, none⟩ = w.cell? ⟨ob2, i, none⟩ := fun i => hS2.fr.cell (p := ⟨ob2, i, none⟩) hob2' (fun e => e)
          have d20 := (ec2 _).trans c20
          have d21 := (ec2 _).trans c21
          have d22 := (ec2 _).trans c22
          have d23 := (ec2 _).trans c23
          have d24 := (ec2 _).trans c24
          clear ec2 hw2' hk2' hm2'
          have hadd2 := add_toArray b2 tx2
          have hsz2 := size_toArray b2
          have hll2 : (b2 ++ tx2.data.toList).length = b2.length + tx2.size := by rw [List.length_append, ← Lib.size_eq]
          generalize b2 ++ tx2.data.toList = bb2 at *
          obtain ⟨p20, p21, p22, p23⟩ := cells2 hS2.m1
          have hzX2 : Siz X2 := hz.kept hS2.fr (fun e => e)
          have nMR2 := ne_type hS2.m1 hS2.r1.1 (by decide)
          have hmm2 := hS2.m1
          go_wp2_with fail
          go_region_with (first | (go_at_call 25; refine (read_any R2 t i2 ok2 on2 obt2 rao2 zl2 rcap2 tx2 _ (by exact hzX2) (by exact hS2.r1) (by omega)).mono ?_; rintro e Y2 ⟨i2', rfl, hr2', hk2''⟩; obtain ⟨y20, y21, y22, y23⟩ := cells2 (hk2''.at hmm2 nMR2)))
          all_goals
            have hT2 := hS2.read nR.symm nM.symm gR2 gM2 hr2' (Kept.undrew hk2'')
            clear hS2 p20 p21 p22 p23 nMR2 hmm2 hzX2 d20 d21 d22 d23 d24 hr2' hk2'' hadd2 hsz2
            go_wp2
            go_roundw
            case rel => exact ⟨j + 1, .inl (by omega), by go_num, _, _, bb1, bb2, i1', i2', rfl, rfl, by omega, by omega, hT2.swap⟩
            case measure => simp [intOf]; omega
      · have hlt2' : l2.length ≤ j := by omega
        have hlt2i : (l2.length : Int) ≤ (j : Int) := by omega
        have htk2 : room (l2.take (j + 1)) = room (l2.take j) := by rw [List.take_of_length_le (by omega), List.take_of_length_le (by omega)]
        have HTK2 := show Hid (room (l2.take (j + 1)) = room (l2.take j)) from htk2
        clear htk2
        obtain ⟨ob1, off1, hao1, hob1, hob1', hcl1⟩ := hcell1 (fun e => by rw [e] at hlt1; simp at hlt1)
        obtain ⟨c10, c11, c12, c13, c14⟩ := hcl1 j hlt1
        have hfit1 := hfits1 l1[j] (List.getElem_mem hlt1)
        have hrt1 := room_take_succ l1 j hlt1
        have hrl1 := room_take_le l1 (j + 1)
        obtain ⟨_, _, hrow1, hss1⟩ := hfit1
        obtain ⟨rao1, rcap1, hrv1, _⟩ := hrow1
        rw [hrv1] at c13
        have hro1 : l1[j].s.size + 16 ≤ l1[j].room := by unfold OpD.room; omega
        generalize l1[j].room = rm1 at *
        generalize l1[j].zs.length = zl1 at *
        generalize l1[j].k = ok1 at *
        generalize l1[j].n = on1 at *
        generalize l1[j].b = obt1 at *
        generalize l1[j].s = tx1 at *
        subst hao1
        have hjl1 : (j : Int) < (l1.length : Int) := by omega
        clear hcl1 hrv1 hcell1 hfits1
        have ec1 : ∀ i, wr.cell? ⟨ob1, i, none⟩ = w.cell? ⟨ob1, i, none⟩ := fun i => hSt.fr.cell (p := ⟨ob1, i, none⟩) hob1' (fun e => e)
        have d14 := (ec1 _).trans c14
        clear ec1
        go_wp2_with fail
        refine (wraw_any _ u1 b1 tx1 _ hSt.w1 (by omega)).mono ?_
        rintro e X1 ⟨rfl, v1, hw1', hk1', hm1'⟩
        have hS1 := hSt.raw nA gA1 hw1' hk1' hm1'
        clear d14
        have ec1 : ∀ i, X1.cell? ⟨ob1, i, none⟩ = w.cell? ⟨ob1, i, none⟩ := fun i => hS1.fr.cell (p := ⟨ob1, i, none⟩) hob1' (fun e => e)
        have d10 := (ec1 _).trans c10
        have d11 := (ec1 _).trans c11
        have d12 := (ec1 _).trans c12
        have d13 := (ec1 _).trans c13
        have d14 := (ec1 _).trans c14
        clear ec1 hw1' hk1' hm1'
        have hadd1 := add_toArray b1 tx1
        have hsz1 := size_toArray b1
        have hll1 : (b1 ++ tx1.data.toList).length = b1.length + tx1.size := by rw [List.length_append, ← Lib.size_eq]
        generalize b1 ++ tx1.data.toList = bb1 at *
        obtain ⟨p10, p11, p12, p13⟩ := cells2 hS1.m1
        have hzX1 : Siz X1 := hz.kept hS1.fr (fun e => e)
        have nMR1 := ne_type hS1.m1 hS1.r1.1 (by decide)
        have hmm1 := hS1.m1
        go_wp2_with fail
        go_region_with (first | (go_at_call 25; refine (read_any R1 s i1 ok1 on1 obt1 rao1 zl1 rcap1 tx1 _ (by exact hzX1) (by exact hS1.r1) (by omega)).mono ?_; rintro e Y1 ⟨i1', rfl, hr1', hk1''⟩; obtain ⟨y10, y11, y12, y13⟩ := cells2 (hk1''.at hmm1 nMR1)))
        all_goals
          have hT1 := hS1.read nR nM gR1 gM1 hr1' (Kept.undrew hk1'')
          clear hS1 p10 p11 p12 p13 nMR1 hmm1 hzX1 d10 d11 d12 d13 d14 hr1' hk1'' hadd1 hsz1
          go_wp2
          go_roundw
          case rel => exact ⟨j + 1, .inl (by omega), by go_num, _, _, bb1, b2, i1', i2, rfl, rfl, by omega, by rw [HTK2.out]; exact hb2, hT1⟩
          case measure => simp [intOf]; omega
    · have hlt1' : l1.length ≤ j := by omega
      have hlt1i : (l1.length : Int) ≤ (j : Int) := by omega
      have htk1 : room (l1.take (j + 1)) = room (l1.take j) := by rw [List.take_of_length_le (by omega), List.take_of_length_le (by omega)]
      have HTK1 := show Hid (room (l1.take (j + 1)) = room (l1.take j)) from htk1
      clear htk1
      by_cases hlt2 : j < l2.length
      · skip
        obtain ⟨ob2, off2, hao2, hob2, hob2', hcl2⟩ := hcell2 (fun e => by rw [e] at hlt2; simp at hlt2)
        obtain ⟨c20, c21, c22, c23, c24⟩ := hcl2 j hlt2
        have hfit2 := hfits2 l2[j] (List.getElem_mem hlt2)
        have hrt2 := room_take_succ l2 j hlt2
        have hrl2 := room_take_le l2 (j + 1)
        obtain ⟨_, _, hrow2, hss2⟩ := hfit2
        obtain ⟨rao2, rcap2, hrv2, _⟩ := hrow2
        rw [hrv2] at c23
        have hro2 : l2[j].s.size + 16 ≤ l2[j].room := by unfold OpD.room; omega
        generalize l2[j].room = rm2 at *
        generalize l2[j].zs.length = zl2 at *
        generalize l2[j].k = ok2 at *
        generalize l2[j].n = on2 at *
        generalize l2[j].b = obt2 at *
        generalize l2[j].s = tx2 at *
        subst hao2
        have hjl2 : (j : Int) < (l2.length : Int) := by omega
        clear hcl2 hrv2 hcell2 hfits2
        have ec2 : ∀ i, wr.cell? ⟨ob2, i, none⟩ = w.cell? ⟨ob2, i, none⟩ := fun i => hSt.fr.cell (p := ⟨ob2, i, none⟩) hob2' (fun e => e)
        have d24 := (ec2 _).trans c24
        clear ec2
        go_wp2_with fail
        refine (wraw_any _ u2 b2 tx2 _ hSt.swap.w1 (by omega)).mono ?_
        rintro e X2 ⟨rfl, v2, hw2', hk2', hm2'⟩
        have hS2 := hSt.swap.raw nA.symm gA2 hw2' hk2' hm2'
        clear d24
        have ec2 : ∀ i, X2.cell? ⟨ob2, i, none⟩ = w.cell? ⟨ob2, i, none⟩ := fun i => hS2.fr.cell (p := ⟨ob2, i, none⟩) hob2' (fun e => e)
        have d20 := (ec2 _).trans c20
        have d21 := (ec2 _).trans c21
        have d22 := (ec2 _).trans c22
        have d23 := (ec2 _).trans c23
        have d24 := (ec2 _).trans c24
        clear ec2 hw2' hk2' hm2'
        have hadd2 := add_toArray b2 tx2
        have hsz2 := size_toArray b2
        have hll2 : (b2 ++ tx2.data.toList).length = b2.length + tx2.size := by rw [List.length_append, ← Lib.size_eq]
        generalize b2 ++ tx2.data.toList = bb2 at *
        obtain ⟨p20, p21, p22, p23⟩ := cells2 hS2.m1
        have hzX2 : Siz X2 := hz.kept hS2.fr (fun e => e)
        have nMR2 := ne_type hS2.m1 hS2.r1.1 (by decide)
        have hmm2 := hS2.m1
        go_wp2_with fail
        go_region_with (first | (go_at_call 25; refine (read_any R2 t i2 ok2 on2 obt2 rao2 zl2 rcap2 tx2 _ (by exact hzX2) (by exact hS2.r1) (by omega)).mono ?_; rintro e Y2 ⟨i2', rfl, hr2', hk2''⟩; obtain ⟨y20, y21, y22, y23⟩ := cells2 (hk2''.at hmm2 nMR2)))
        all_goals
          have hT2 := hS2.read nR.symm nM.symm gR2 gM2 hr2' (Kept.undrew hk2'')
          clear hS2 p20 p21 p22 p23 nMR2 hmm2 hzX2 d20 d21 d22 d23 d24 hr2' hk2'' hadd2 hsz2
          go_wp2
          go_roundw
          case rel => exact ⟨j + 1, .inr (by omega), by go_num, _, _, b1, bb2, i1, i2', rfl, rfl, by rw [HTK1.out]; exact hb1, by omega, hT2.swap⟩
          case measure => simp [intOf]; omega
      · have hlt2i : (l2.length : Int) ≤ (j : Int) := by omega
        have q1 := hSt.r1
        have q2 := hSt.r2
        obtain ⟨p10, p11, _, _⟩ := cells2 hSt.m1
        obtain ⟨p20, p21, _, _⟩ := cells2 hSt.m2
        go_wp2_with fail
        go_quiet ((first | (go_at_call_of 23 (Value.pointer (some ⟨A1, 0, none⟩)); exact Calls.quiet_of_same (wbytes_any A1 u1 b1 _ (by exact hSt.w1))) | (go_at_call_of 23 (Value.pointer (some ⟨A2, 0, none⟩)); exact Calls.quiet_of_same (wbytes_any A2 u2 b2 _ (by exact hSt.w2))) | (go_at_call_of 26 (Value.pointer (some ⟨R1, 0, none⟩)); exact Calls.quiet_of_same (rat_any R1 s i1 _ (by exact hSt.r1))) | (go_at_call_of 26 (Value.pointer (some ⟨R2, 0, none⟩)); exact Calls.quiet_of_same (rat_any R2 t i2 _ (by exact hSt.r2)))))
        go_wp2
        go_ret
        exact ⟨rfl, hSt.fr.drewN _⟩

end Go.Proofs.YtcdgphneljgooaaDoor.Two
