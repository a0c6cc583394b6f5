/-
  Which merges fit.
-/
import Derived.Test.YtakiimjldccgcabDoorShKxToVop
namespace Go.Proofs.YtakiimjldccgcabDoor
open Go.RowKit Go.Lib Go.Maps

/-- Is it a token other than the end? -/
def tkB (n : Nat) (z : Int) : Bool := decide (1 ≤ z) && decide (z < (n : Int))
/-- Does a merge fit texts? -/
def fiB (T : List (List UInt8)) (m : Mg) : Bool := tkB T.length m.l && tkB T.length m.r && tkB T.length m.o && (gT T m.o.toNat == gT T m.l.toNat ++ gT T m.r.toNat)
def mgV (m : Mg) : Value := .agg #[zV m.l, zV m.r, zV m.o]
def pk (m : Mg) (j : Nat) : Int := if j = 0 then m.l else if j = 1 then m.r else m.o
theorem bA_app (a b : List UInt8) : ByteArray.mk a.toArray ++ ByteArray.mk b.toArray = ByteArray.mk (a ++ b).toArray := by
  apply ByteArray.ext
  apply Array.ext'
  simp
theorem ix30 (a b c : Int) (w : World) : (Instr.index 192 (.agg #[zV a, zV b, zV c]) (.int .i64 0)).run Tryd.prog w = .ok (zV a) w := by kernel_rfl
theorem ix31 (a b c : Int) (w : World) : (Instr.index 192 (.agg #[zV a, zV b, zV c]) (.int .i64 1)).run Tryd.prog w = .ok (zV b) w := by kernel_rfl
theorem ix32 (a b c : Int) (w : World) : (Instr.index 192 (.agg #[zV a, zV b, zV c]) (.int .i64 2)).run Tryd.prog w = .ok (zV c) w := by kernel_rfl
set_option maxHeartbeats 2000000 in
set_option maxRecDepth 100000 in
theorem fits_any {p : Nat → Prop} (X : World) (tv : Value) (T : List (List UInt8)) (m : Mg) (hT : TxR p X tv T) (h64 : ∀ i, i < T.length → (gT T i).length ≤ 64) :
    Calls Tryd.prog 101 #[tv, .agg #[zV m.l, zV m.r, zV m.o]] X fun e X' => e = .returned (.bool (fiB T m)) ∧ Fresh X X' := by
  have HT : Hid (TxR (fun b => b < X.heap.size) X tv T) := hT.low
  obtain ⟨ta, tc, htv⟩ := hT.shape
  have h16 := hT.len16
  subst htv
  clear hT
  have H64 := show Hid _ from h64
  have HRet : Hid (∀ j, j < 3 → tkB T.length (pk m j) = false → fiB T m = false) := fun j hj h => by
    unfold fiB
    have : j = 0 ∨ j = 1 ∨ j = 2 := by omega
    rcases this with rfl | rfl | rfl
    · rw [show tkB T.length m.l = false from h]; rfl
    · rw [show tkB T.length m.r = false from h]; simp
    · rw [show tkB T.length m.o = false from h]; simp
  have HEnd : Hid ((∀ j, j < 3 → tkB T.length (pk m j) = true) → fiB T m = (gT T m.o.toNat == gT T m.l.toNat ++ gT T m.r.toNat)) := fun h => by
    unfold fiB
    rw [show tkB T.length m.l = true from h 0 (by omega), show tkB T.length m.r = true from h 1 (by omega), show tkB T.length m.o = true from h 2 (by omega)]
    rfl
  have HF0 : Hid (Fresh X (X.alloc (.cells #[zV m.l, zV m.r, zV m.o] 89))) := (Kept.refl _ X).alloc _
  have hc0 : (X.alloc (.cells #[zV m.l, zV m.r, zV m.o] 89)).cell? ⟨X.heap.size, 0, none⟩ = some (zV m.l) := by rw [World.cell?_alloc_new]; rfl
  have hc1 : (X.alloc (.cells #[zV m.l, zV m.r, zV m.o] 89)).cell? ⟨X.heap.size, 1, none⟩ = some (zV m.r) := by rw [World.cell?_alloc_new]; rfl
  have hc2 : (X.alloc (.cells #[zV m.l, zV m.r, zV m.o] 89)).cell? ⟨X.heap.size, 2, none⟩ = some (zV m.o) := by rw [World.cell?_alloc_new]; rfl
  clear h64
  generalize hFB : fiB T m = FB at *
  clear hFB
  generalize htt : T.length = tn at *
  have hpk0 : pk m 0 = m.l := rfl
  have hpk1 : pk m 1 = m.r := rfl
  have hpk2 : pk m 2 = m.o := rfl
  have HPK : Hid (pk m 0 = m.l ∧ pk m 1 = m.r ∧ pk m 2 = m.o) := ⟨rfl, rfl, rfl⟩
  clear hpk0 hpk1 hpk2
  generalize hml : m.l = ml at *
  generalize hmr : m.r = mr at *
  generalize hmo : m.o = mo at *
  clear hml hmr hmo
  go_enter Tryd.func101, Tryd.ntmps101
  go_wp2
  have hX1 : ∃ X1, X.alloc (.cells #[zV ml, zV mr, zV mo] 89) = X1 := ⟨_, rfl⟩
  obtain ⟨X1, hX1⟩ := hX1
  rw [hX1] at hc0 hc1 hc2 HF0 ⊢
  clear hX1
  go_loopw [14] (fun iv wr => ∃ j : Nat, j ≤ 3 ∧ iv = zV j ∧ wr = X1 ∧ Hid (∀ i, i < j → tkB tn (pk m i) = true)) (fun iv _ => 3 - (RowKit.intOf iv).toNat)
  case atStart => exact ⟨0, Nat.zero_le _, rfl, rfl, fun i hi => absurd hi (Nat.not_lt_zero _)⟩
  case round =>
    obtain ⟨j, hj, rfl, rfl, HB⟩ := hrel
    by_cases hlt : j < 3
    · have hj3 : j = 0 ∨ j = 1 ∨ j = 2 := by omega
      rcases hj3 with rfl | rfl | rfl
      · have hp := HPK.out.1
        have hix := ix30 ml mr mo wr
        by_cases h1 : 1 ≤ ml
        · by_cases h2 : ml < (tn : Int)
          · have HB2 : Hid (∀ i, i < 0 + 1 → tkB tn (pk m i) = true) := fun i hi => by
              by_cases e : i = 0
              · rw [e, hp]; unfold tkB; simp [h1, h2]
              · exact HB.out i (by omega)
            have h1' : ¬ ml < 1 := by omega
            clear hp HB HRet HEnd
            go_wp2
            go_roundw
            case rel => exact ⟨0 + 1, by omega, by go_num, trivial, HB2.out⟩
            case measure => simp [RowKit.intOf]
          · have HE := show Hid _ from HRet.out 0 (by omega) (by rw [hp]; unfold tkB; simp [h2])
            have h1' : ¬ ml < 1 := by omega
            clear hp HB HRet HEnd
            go_wp2
            go_ret
            exact ⟨by rw [HE.out]; rfl, HF0.out⟩
        · have HE := show Hid _ from HRet.out 0 (by omega) (by rw [hp]; unfold tkB; simp [h1])
          have h1' : ml < 1 := by omega
          clear hp HB HRet HEnd
          go_wp2
          go_ret
          exact ⟨by rw [HE.out]; rfl, HF0.out⟩
      · have hp := HPK.out.2.1
        have hix := ix31 ml mr mo wr
        by_cases h1 : 1 ≤ mr
        · by_cases h2 : mr < (tn : Int)
          · have HB2 : Hid (∀ i, i < 1 + 1 → tkB tn (pk m i) = true) := fun i hi => by
              by_cases e : i = 1
              · rw [e, hp]; unfold tkB; simp [h1, h2]
              · exact HB.out i (by omega)
            have h1' : ¬ mr < 1 := by omega
            clear hp HB HRet HEnd
            go_wp2
            go_roundw
            case rel => exact ⟨1 + 1, by omega, by go_num, trivial, HB2.out⟩
            case measure => simp [RowKit.intOf]
          · have HE := show Hid _ from HRet.out 1 (by omega) (by rw [hp]; unfold tkB; simp [h2])
            have h1' : ¬ mr < 1 := by omega
            clear hp HB HRet HEnd
            go_wp2
            go_ret
            exact ⟨by rw [HE.out]; rfl, HF0.out⟩
        · have HE := show Hid _ from HRet.out 1 (by omega) (by rw [hp]; unfold tkB; simp [h1])
          have h1' : mr < 1 := by omega
          clear hp HB HRet HEnd
          go_wp2
          go_ret
          exact ⟨by rw [HE.out]; rfl, HF0.out⟩
      · have hp := HPK.out.2.2
        have hix := ix32 ml mr mo wr
        by_cases h1 : 1 ≤ mo
        · by_cases h2 : mo < (tn : Int)
          · have HB2 : Hid (∀ i, i < 2 + 1 → tkB tn (pk m i) = true) := fun i hi => by
              by_cases e : i = 2
              · rw [e, hp]; unfold tkB; simp [h1, h2]
              · exact HB.out i (by omega)
            have h1' : ¬ mo < 1 := by omega
            clear hp HB HRet HEnd
            go_wp2
            go_roundw
            case rel => exact ⟨2 + 1, by omega, by go_num, trivial, HB2.out⟩
            case measure => simp [RowKit.intOf]
          · have HE := show Hid _ from HRet.out 2 (by omega) (by rw [hp]; unfold tkB; simp [h2])
            have h1' : ¬ mo < 1 := by omega
            clear hp HB HRet HEnd
            go_wp2
            go_ret
            exact ⟨by rw [HE.out]; rfl, HF0.out⟩
        · have HE := show Hid _ from HRet.out 2 (by omega) (by rw [hp]; unfold tkB; simp [h1])
          have h1' : mo < 1 := by omega
          clear hp HB HRet HEnd
          go_wp2
          go_ret
          exact ⟨by rw [HE.out]; rfl, HF0.out⟩
    · obtain rfl : j = 3 := by omega
      have HE := show Hid _ from HEnd.out HB.out
      have q0 := HB.out 0 (by omega)
      have q1 := HB.out 1 (by omega)
      have q2 := HB.out 2 (by omega)
      rw [HPK.out.1] at q0
      rw [HPK.out.2.1] at q1
      rw [HPK.out.2.2] at q2
      unfold tkB at q0 q1 q2
      simp only [Bool.and_eq_true, decide_eq_true_eq] at q0 q1 q2
      obtain ⟨nl, rfl⟩ : ∃ n : Nat, ml = (n : Int) := ⟨ml.toNat, by omega⟩
      obtain ⟨nr, rfl⟩ : ∃ n : Nat, mr = (n : Int) := ⟨mr.toNat, by omega⟩
      obtain ⟨no, rfl⟩ : ∃ n : Nat, mo = (n : Int) := ⟨mo.toNat, by omega⟩
      rw [Int.toNat_natCast, Int.toNat_natCast, Int.toNat_natCast] at HE
      have k0 : nl < tn := by omega
      have k1 : nr < tn := by omega
      have k2 : no < tn := by omega
      obtain ⟨b, off, rfl, _, _, hcell⟩ := (HT.out.fresh HF0.out).cells.2.2 (by omega)
      have t0 : wr.cell? ⟨b, off + nl, none⟩ = some (.string (ByteArray.mk (gT T nl).toArray)) := hcell nl k0
      have t1 : wr.cell? ⟨b, off + nr, none⟩ = some (.string (ByteArray.mk (gT T nr).toArray)) := hcell nr k1
      have t2 : wr.cell? ⟨b, off + no, none⟩ = some (.string (ByteArray.mk (gT T no).toArray)) := hcell no k2
      have l0 := H64.out nl k0
      have l1 := H64.out nr k1
      rw [← bA_size] at l0 l1
      have HEq : Hid (((ByteArray.mk (gT T no).toArray).toList == (ByteArray.mk (gT T nl).toArray ++ ByteArray.mk (gT T nr).toArray).toList) = (gT T no == gT T nl ++ gT T nr)) := by
        show _ = _
        rw [bA_app, ByteArray.toList_eq, ByteArray.toList_eq]
      clear HRet HEnd HB q0 q1 q2 hcell H64
      generalize ByteArray.mk (gT T nl).toArray = sa at *
      generalize ByteArray.mk (gT T nr).toArray = sb at *
      generalize ByteArray.mk (gT T no).toArray = sc at *
      go_wp2_with fail
      go_quiet (fail)
      go_wp2
      go_ret
      refine ⟨?_, HF0.out.drewN _⟩
      rw [HE.out, ← HEq.out]
      rfl
end Go.Proofs.YtakiimjldccgcabDoor

/-
  Which merges are right; Check.
-/
namespace Go.Proofs.YtakiimjldccgcabDoor
open Go.RowKit Go.Lib Go.Maps

/-- Is something wrong with a merge at its place? -/
def bdM (T : List (List UInt8)) (M : List Mg) (i : Nat) : Bool := (List.range i).any (fun j => decide ((gM M j).l = (gM M i).l ∧ (gM M j).r = (gM M i).r)) || !fiB T (gM M i)
def wrM (T : List (List UInt8)) (M : List Mg) : Int := if 1024 < M.length then 1024 else match fdF (bdM T M) M.length with
  | some i => (i : Int)
  | none => -1
theorem rkT_isSome (M : List Mg) (a b : Int) : ∀ k, (rkT M k a b).isSome = (List.range k).any (fun j => decide ((gM M j).l = a ∧ (gM M j).r = b))
  | 0 => rfl
  | k + 1 => by
    rw [List.range_succ, List.any_append, ← rkT_isSome M a b k]
    show (if (gM M k).l = a ∧ (gM M k).r = b then some k else rkT M k a b).isSome = _
    by_cases h : (gM M k).l = a ∧ (gM M k).r = b
    · rw [if_pos h]
      have : decide ((gM M k).l = a ∧ (gM M k).r = b) = true := by simpa using h
      simp only [List.any_cons, List.any_nil, Bool.or_false, this, Bool.or_true, Option.isSome_some]
    · rw [if_neg h]
      have : decide ((gM M k).l = a ∧ (gM M k).r = b) = false := by simpa using h
      simp only [List.any_cons, List.any_nil, Bool.or_false, this]
set_option maxHeartbeats 2000000 in
set_option maxRecDepth 100000 in
theorem wrongMerge_any {p : Nat → Prop} (X : World) (tv mv : Value) (T : List (List UInt8)) (M : List Mg) (hT : TxR p X tv T) (hM : MgR p X mv M) (h64 : ∀ i, i < T.length → (gT T i).length ≤ 64) :
    Calls Tryd.prog 92 #[.agg #[tv, mv]] X fun e X' => e = .returned (zV (wrM T M)) ∧ Fresh X X' := by
  have HT : Hid (TxR (fun b => b < X.heap.size) X tv T) := hT.low
  have HM : Hid (MgR (fun b => b < X.heap.size) X mv M) := hM.low
  obtain ⟨ta, tc, htv⟩ := hT.shape
  obtain ⟨ma, mc, hmv⟩ := hM.shape
  have h64' := show Hid _ from h64
  have hml : M.length ≤ mc := by
    obtain ⟨ao, cap, e, _, e2, _⟩ := hM
    rw [hmv] at e
    injection e with _ _ e3
    omega
  subst htv hmv
  clear hT hM h64
  have hb0 : (X.alloc (.cells #[.slice ta T.length tc, .slice ma M.length mc] 44)).cell? ⟨X.heap.size, 0, none⟩ = some (.slice ta T.length tc) := by rw [World.cell?_alloc_new]; rfl
  have hb1 : (X.alloc (.cells #[.slice ta T.length tc, .slice ma M.length mc] 44)).cell? ⟨X.heap.size, 1, none⟩ = some (.slice ma M.length mc) := by rw [World.cell?_alloc_new]; rfl
  have HF1 : Hid (Fresh X (X.alloc (.cells #[.slice ta T.length tc, .slice ma M.length mc] 44))) := (Kept.refl _ X).alloc _
  have hz1 : X.heap.size < (X.alloc (.cells #[.slice ta T.length tc, .slice ma M.length mc] 44)).heap.size := by rw [World.size_alloc]; omega
  by_cases hbig : 1024 < M.length
  · have e : wrM T M = 1024 := if_pos hbig
    rw [e]
    clear HT HM e hb0 hb1
    generalize T.length = tn at *
    generalize M.length = mn at *
    go_enter Tryd.func92, Tryd.ntmps92
    go_wp2
    go_ret
    exact ⟨rfl, HF1.out⟩
  · have hmm : ∀ V : World, (Instr.makeMap 180 (some (.int .i64 (M.length : Int)))).run Tryd.prog V = .ok (.map (some V.heap.size)) (V.alloc (.map #[] 0)) := fun V => run_mm Tryd.underlying180 _ V
    have HW : Hid (∀ r, (∃ j, j < M.length ∧ bdM T M j = true ∧ (∀ i, i < j → bdM T M i = false) ∧ r = (j : Int)) ∨ ((∀ i, i < M.length → bdM T M i = false) ∧ r = -1) → wrM T M = r) := fun r hr => by
      unfold wrM
      rw [if_neg hbig]
      rcases hr with ⟨j, h1, h2, h3, rfl⟩ | ⟨h1, rfl⟩
      · rw [fdF_some h1 h2 h3]
      · rw [fdF_none h1]
    generalize wrM T M = WR at *
    generalize htt : T.length = tn at *
    generalize hkk : M.length = mn at *
    generalize hX1 : X.alloc (.cells #[.slice ta tn tc, .slice ma mn mc] 44) = X1 at *
    have HK0 : Hid (KM 182 (X1.alloc (.map #[] 0)) X1.heap.size 0 (rkV M 0)) := (KM.made 182 X1).congr (fun v => (rkV_zero M v).symm)
    have HF0 : Hid (Fresh X1 (X1.alloc (.map #[] 0))) := (Kept.refl _ X1).alloc _
    have b2 : ∀ o i, (X1.alloc o).cell? ⟨X.heap.size, i, none⟩ = X1.cell? ⟨X.heap.size, i, none⟩ := fun o i => World.cell?_alloc_lt X1 o _ hz1
    have HBx : Hid (∀ w, Fresh X1 w → w.cell? ⟨X.heap.size, 0, none⟩ = some (.slice ta tn tc) ∧ w.cell? ⟨X.heap.size, 1, none⟩ = some (.slice ma mn mc)) := fun w hk => ⟨(hk.cell (p := ⟨X.heap.size, 0, none⟩) hz1 (fun e => e)).trans hb0, (hk.cell (p := ⟨X.heap.size, 1, none⟩) hz1 (fun e => e)).trans hb1⟩
    go_enter Tryd.func92, Tryd.ntmps92
    go_wp2
    clear hmm b2 hb0 hb1
    go_loopw [20] (fun iv wr => ∃ j : Nat, j ≤ mn ∧ iv = zV j ∧ Hid (KM 182 wr X1.heap.size j (rkV M j) ∧ Fresh X1 wr) ∧ Hid (∀ i, i < j → bdM T M i = false)) (fun iv _ => mn - (RowKit.intOf iv).toNat)
    case atStart => exact ⟨0, Nat.zero_le _, rfl, ⟨HK0.out, HF0.out⟩, fun i hi => absurd hi (Nat.not_lt_zero _)⟩
    case round =>
      obtain ⟨j, hj, rfl, HQ, HB⟩ := hrel
      clear HK0 HF0
      by_cases hlt : j < mn
      · have hlt' : (j : Int) < (mn : Int) := by omega
        obtain ⟨ao, cap, hmv, _, _, hm64, hmc⟩ := HM.out.fresh (HF1.out.trans HQ.out.2 (fun _ _ e => e))
        injection hmv with e1 e2 e3
        subst e1 e3
        clear e2
        obtain ⟨b, off, rfl, _, hbX, hcells⟩ := hmc (by omega)
        obtain ⟨m0, m1, m2⟩ := hcells j (by omega)
        obtain ⟨i1, i2, _⟩ := hm64 j (by omega)
        obtain ⟨kl, hkl⟩ := pairKey i1 i2
        have hFa : Fresh wr ((wr.alloc (.cells #[.int .i64 (gM M j).l, .int .i64 (gM M j).r, .int .i64 (gM M j).o] 89)).alloc (.cells #[.int .i64 (gM M j).l, .int .i64 (gM M j).r] 182)) := ((Kept.refl _ wr).alloc _).alloc _
        have hK2 := HQ.out.1.kept hFa (fun e => e)
        have hlk := hK2.look pairKeyed Tryd.underlying180 hkl
        rw [rkV_pair, show ((rkT M j (gM M j).l (gM M j).r).map Int.ofNat).isSome = (List.range j).any (fun q => decide ((gM M q).l = (gM M j).l ∧ (gM M q).r = (gM M j).r)) by rw [Option.isSome_map, rkT_isSome]] at hlk
        generalize ((rkT M j (gM M j).l (gM M j).r).map Int.ofNat).getD 0 = lx at *
        have hbdd : bdM T M j = ((List.range j).any (fun q => decide ((gM M q).l = (gM M j).l ∧ (gM M q).r = (gM M j).r)) || !fiB T (gM M j)) := rfl
        generalize hag : (List.range j).any (fun q => decide ((gM M q).l = (gM M j).l ∧ (gM M q).r = (gM M j).r)) = ag at *
        clear hag
        have HFit : Hid (∀ W, Fresh wr W → Calls Tryd.prog 101 #[.slice ta tn tc, .agg #[zV (gM M j).l, zV (gM M j).r, zV (gM M j).o]] W fun e X' => e = .returned (.bool (fiB T (gM M j))) ∧ Fresh W X') := fun W hW => fits_any W _ T (gM M j) (HT.out.fresh ((HF1.out.trans HQ.out.2 (fun _ _ e => e)).trans hW (fun _ _ e => e))) (by rw [htt]; exact h64'.out)
        have HSt : Hid (∀ W, Fresh wr W → ∃ w', (Instr.mapUpdate 180 (.map (some X1.heap.size)) (pV (gM M j).l (gM M j).r) (.int .i64 (j : Int))).run Tryd.prog W = .ok () w' ∧ KM 182 w' X1.heap.size (j + 1) (rkV M (j + 1)) ∧ Fresh X1 w') := fun W hW => by
          obtain ⟨w', hst, hkm, hgr⟩ := (HQ.out.1.kept hW (fun e => e)).store pairKeyed Tryd.underlying180 (by unfold maxLen; omega) hkl (x := (j : Int)) (by constructor <;> omega) (rkV M (j + 1)) (by
            rw [rkV_pair]
            unfold rkT
            rw [if_pos ⟨rfl, rfl⟩]
            rfl) (fun key' kl' hne hk' => by
            unfold rkV
            split
            · rename_i a' b' he
              conv => lhs; unfold rkT
              rw [if_neg (fun e => ?_)]
              refine hne ?_
              cases key' with
              | agg c =>
                have hc : c.toList = [.int .i64 a', .int .i64 b'] := he
                have : c = #[.int .i64 a', .int .i64 b'] := by
                  apply Array.ext'
                  rw [hc]
                rw [this, ← e.1, ← e.2]
              | _ => simp [lstV] at he
            · rfl)
          exact ⟨w', hst, hkm, (HQ.out.2.trans hW (fun _ _ e => e)).trans ((Kept.refl (fun q => q = X1.heap.size) _).grown hgr (fun q _ e => by injection e with e; exact e.symm)) (fun q hq e => by have e' : q = X1.heap.size := e; omega)⟩
        obtain ⟨x0, x1⟩ := HBx.out _ (HQ.out.2.trans hFa (fun _ _ e => e))
        have HFX : Hid (Fresh X wr) := HF1.out.trans HQ.out.2 (fun _ _ e => e)
        have HBad : Hid (bdM T M j = true → WR = (j : Int)) := fun hb => HW.out (j : Int) (.inl ⟨j, by omega, hb, HB.out, rfl⟩)
        have HB2 : Hid (bdM T M j = false → ∀ i, i < j + 1 → bdM T M i = false) := fun hb i hi => by
          by_cases e : i = j
          · rw [e]; exact hb
          · exact HB.out i (by omega)
        have HFa := show Hid _ from hFa
        clear hK2 hFa hkl hm64 hmc hcells i1 i2 HW HB HQ
        have HBd := show Hid _ from hbdd
        clear hbdd
        generalize hfi : fiB T (gM M j) = fi at *
        clear hfi
        generalize (gM M j).l = ml at *
        generalize (gM M j).r = mr at *
        generalize (gM M j).o = mo at *
        cases ag with
        | true =>
          have HE := show Hid _ from HBad.out (by rw [HBd.out]; rfl)
          clear HBad HB2 HBd HFit HSt
          go_wp2
          go_ret
          exact ⟨by rw [HE.out]; rfl, HFX.out.trans HFa.out (fun _ _ e => e)⟩
        | false =>
          have HCall := show Hid _ from HFit.out _ HFa.out
          clear HFit
          go_wp2_with fail
          refine Calls.mono HCall.out ?_
          rintro e W3 ⟨rfl, hF3⟩
          clear HCall
          have HF3 : Hid (Fresh wr W3) := HFa.out.trans hF3 (fun _ _ e => e)
          cases fi with
          | false =>
            have HE := show Hid _ from HBad.out (by rw [HBd.out]; rfl)
            clear HBad HB2 HBd HSt hF3
            go_wp2
            go_ret
            exact ⟨by rw [HE.out]; rfl, HFX.out.trans HF3.out (fun _ _ e => e)⟩
          | true =>
            have HE := show Hid _ from HB2.out (by rw [HBd.out]; rfl)
            obtain ⟨w', hst, hkm, hfw⟩ := HSt.out W3 HF3.out
            have HN : Hid (KM 182 w' X1.heap.size (j + 1) (rkV M (j + 1)) ∧ Fresh X1 w') := ⟨hkm, hfw⟩
            have k0 : W3.cell? ⟨wr.heap.size + 1, 0, none⟩ = some (.int .i64 ml) := (hF3.cell (p := ⟨wr.heap.size + 1, 0, none⟩) (by simp) (fun e => e)).trans (by simp)
            have k1 : W3.cell? ⟨wr.heap.size + 1, 1, none⟩ = some (.int .i64 mr) := (hF3.cell (p := ⟨wr.heap.size + 1, 1, none⟩) (by simp) (fun e => e)).trans (by simp)
            clear HBad HB2 HBd HSt hF3 hkm hfw
            go_wp2
            go_roundw
            case rel => exact ⟨j + 1, hlt, by go_num, HN.out, HE.out⟩
            case measure => simp [RowKit.intOf]; omega
      · obtain rfl : j = mn := by omega
        have HE := show Hid _ from HW.out (-1) (.inr ⟨HB.out, rfl⟩)
        clear HW
        go_wp2
        go_ret
        exact ⟨by rw [HE.out]; rfl, HF1.out.trans HQ.out.2 (fun _ _ e => e)⟩
end Go.Proofs.YtakiimjldccgcabDoor

/-
  Check.
-/
namespace Go.Proofs.YtakiimjldccgcabDoor
open Go.RowKit Go.Lib Go.Maps

/-- What Check answers. -/
def vcP (T : List (List UInt8)) (M : List Mg) : Int := if wrT T ≠ -1 then wrT T else if wrM T M ≠ -1 then wrM T M else 0
def vcE (T : List (List UInt8)) (M : List Mg) : Int := if wrT T ≠ -1 then 130 else if wrM T M ≠ -1 then 131 else 0
theorem fdF_all {f : Nat → Bool} {n : Nat} (h : fdF f n = none) : ∀ i, i < n → f i = false := fun i hi => by
  unfold fdF at h
  have := List.find?_eq_none.1 h i (List.mem_range.2 hi)
  simpa using this
theorem wrT_good {T : List (List UInt8)} (h : wrT T = -1) : T.length ≤ 512 ∧ 2 ≤ T.length ∧ ∀ i, i < T.length → bdT T i = false := by
  unfold wrT at h
  split at h
  · omega
  · split at h
    · omega
    · rename_i e
      split at h
      · omega
      · exact ⟨by omega, by omega, fdF_all e⟩
theorem bdT_false {T : List (List UInt8)} {i : Nat} (h : bdT T i = false) : (∀ j, j < i → gT T j ≠ gT T i) ∧ (i = 0 ↔ gT T i = []) ∧ (gT T i).length ≤ 64 := by
  unfold bdT at h
  simp only [Bool.or_eq_false_iff, List.any_eq_false, List.mem_range, decide_eq_false_iff_not, Nat.not_lt] at h
  obtain ⟨⟨h1, h2⟩, h3⟩ := h
  refine ⟨fun j hj e => h1 j hj (by simpa using e), ?_, h3⟩
  have h2' : (i == 0) = (gT T i == []) := by simpa using h2
  constructor
  · intro e
    have : (gT T i == []) = true := by rw [← h2']; simpa using e
    simpa using this
  · intro e
    have : (i == 0) = true := by rw [h2']; simpa using e
    simpa using this
theorem wrM_good {T : List (List UInt8)} {M : List Mg} (h : wrM T M = -1) : M.length ≤ 1024 ∧ ∀ i, i < M.length → bdM T M i = false := by
  unfold wrM at h
  split at h
  · omega
  · split at h
    · omega
    · rename_i e; exact ⟨by omega, fdF_all e⟩
theorem fiB_true {T : List (List UInt8)} {m : Mg} (h : fiB T m = true) : (1 ≤ m.l ∧ m.l < (T.length : Int)) ∧ (1 ≤ m.r ∧ m.r < (T.length : Int)) ∧ (1 ≤ m.o ∧ m.o < (T.length : Int)) ∧ gT T m.o.toNat = gT T m.l.toNat ++ gT T m.r.toNat := by
  unfold fiB tkB at h
  simp only [Bool.and_eq_true, decide_eq_true_eq, beq_iff_eq] at h
  exact ⟨h.1.1.1, h.1.1.2, h.1.2, h.2⟩
theorem bdM_false {T : List (List UInt8)} {M : List Mg} {i : Nat} (h : bdM T M i = false) : (∀ j, j < i → ¬ ((gM M j).l = (gM M i).l ∧ (gM M j).r = (gM M i).r)) ∧ fiB T (gM M i) = true := by
  unfold bdM at h
  simp only [Bool.or_eq_false_iff, List.any_eq_false, List.mem_range, Bool.not_eq_false', decide_eq_true_eq] at h
  exact ⟨fun j hj e => h.1 j hj e, h.2⟩
theorem good_64 {T : List (List UInt8)} (h : wrT T = -1) : ∀ i, i < T.length → (gT T i).length ≤ 64 := fun i hi => (bdT_false ((wrT_good h).2.2 i hi)).2.2
set_option maxHeartbeats 1000000 in
set_option maxRecDepth 100000 in
theorem vcheck_any {p : Nat → Prop} (X : World) (tv mv : Value) (T : List (List UInt8)) (M : List Mg) (hT : TxR p X tv T) (hM : MgR p X mv M) :
    Calls Tryd.prog 73 #[.agg #[tv, mv]] X fun e X' => e = .returned (.tuple #[zV (vcP T M), zV (vcE T M)]) ∧ Fresh X X' := by
  have HF1 : Hid (Fresh X (X.alloc (.cells #[tv, mv] 44))) := (Kept.refl _ X).alloc _
  have hb0 : (X.alloc (.cells #[tv, mv] 44)).cell? ⟨X.heap.size, 0, none⟩ = some tv := by rw [World.cell?_alloc_new]; rfl
  have HB : Hid (∀ w, Fresh (X.alloc (.cells #[tv, mv] 44)) w → w.cell? ⟨X.heap.size, 0, none⟩ = some tv ∧ w.cell? ⟨X.heap.size, 1, none⟩ = some mv) := fun w hk => by
    have hz : X.heap.size < (X.alloc (.cells #[tv, mv] 44)).heap.size := by rw [World.size_alloc]; omega
    exact ⟨(hk.cell (p := ⟨X.heap.size, 0, none⟩) hz (fun e => e)).trans (by rw [World.cell?_alloc_new]; rfl), (hk.cell (p := ⟨X.heap.size, 1, none⟩) hz (fun e => e)).trans (by rw [World.cell?_alloc_new]; rfl)⟩
  have HC1 : Hid (∀ w, Fresh X w → Calls Tryd.prog 91 #[tv] w fun e X' => e = .returned (zV (wrT T)) ∧ Fresh w X') := fun w hk => wrongText_any w tv T (hT.fresh hk)
  have HC2 : Hid (wrT T = -1 → ∀ w, Fresh X w → Calls Tryd.prog 92 #[.agg #[tv, mv]] w fun e X' => e = .returned (zV (wrM T M)) ∧ Fresh w X') := fun hg w hk => wrongMerge_any w tv mv T M (hT.fresh hk) (hM.fresh hk) (good_64 hg)
  obtain ⟨ta, tc, rfl⟩ := hT.shape
  obtain ⟨ma, mc, rfl⟩ := hM.shape
  have HP : Hid (vcP T M = if wrT T ≠ -1 then wrT T else if wrM T M ≠ -1 then wrM T M else 0) := rfl
  have HE : Hid (vcE T M = if wrT T ≠ -1 then 130 else if wrM T M ≠ -1 then 131 else 0) := rfl
  generalize vcP T M = P at *
  generalize vcE T M = E at *
  clear hT hM
  generalize T.length = tn at *
  generalize M.length = mn at *
  generalize hX1 : X.alloc (.cells #[.slice ta tn tc, .slice ma mn mc] 44) = X1 at *
  have HCall := show Hid _ from HC1.out X1 HF1.out
  clear HC1
  generalize hwt : wrT T = wt at *
  go_enter Tryd.func73, Tryd.ntmps73
  go_wp2_with fail
  refine Calls.mono HCall.out ?_
  rintro e W2 ⟨rfl, hF2⟩
  have HF2 : Hid (Fresh X W2) := HF1.out.trans hF2 (fun _ _ e => e)
  obtain ⟨x0, x1⟩ := HB.out W2 hF2
  clear HCall hF2 hb0
  by_cases h1 : wt = -1
  · have HC3 := show Hid _ from HC2.out h1 W2 HF2.out
    rw [if_neg (by simpa using h1)] at HP HE
    clear HC2
    subst h1
    generalize hwm : wrM T M = wm at *
    go_wp2_with fail
    refine Calls.mono HC3.out ?_
    rintro e W3 ⟨rfl, hF3⟩
    have HF3 : Hid (Fresh X W3) := HF2.out.trans hF3 (fun _ _ e => e)
    clear HC3 hF3
    by_cases h2 : wm = -1
    · rw [if_neg (by simpa using h2)] at HP HE
      subst h2
      go_wp2
      go_ret2
      exact ⟨by rw [HP.out, HE.out]; rfl, HF3.out⟩
    · rw [if_pos h2] at HP HE
      have h2' : (wm == -1) = false := by simpa using h2
      go_wp2
      go_ret2
      exact ⟨by rw [HP.out, HE.out]; rfl, HF3.out⟩
  · rw [if_pos h1] at HP HE
    have h1' : (wt == -1) = false := by simpa using h1
    clear HC2
    go_wp2
    go_ret2
    exact ⟨by rw [HP.out, HE.out]; rfl, HF2.out⟩

theorem vcE_zero {T : List (List UInt8)} {M : List Mg} (h : vcE T M = 0) : wrT T = -1 ∧ wrM T M = -1 := by
  unfold vcE at h
  split at h
  · omega
  · rename_i h1
    split at h
    · omega
    · rename_i h2; exact ⟨by simpa using h1, by simpa using h2⟩
end Go.Proofs.YtakiimjldccgcabDoor
