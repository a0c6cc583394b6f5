/-
  Which merges are right; Check.
-/
import Derived.Test.YtdponkpgokncdaaVoq
namespace Go.Proofs.Ytdponkpgokncdaa
open Go.RowKit Go.Lib Go.Maps

/-- Is something wrong with a merge at its place? -/
def bdM (T : List (List UInt8)) (M : List Mg) (i : Nat) : Bool := (List.range i).any (fun j => decide ((gM M j).l = (gM M i).l ∧ (gM M j).r = (gM M i).r)) || !fiB T (gM M i)
def wrM (T : List (List UInt8)) (M : List Mg) : Int := if 1024 < M.length then 1024 else match fdF (bdM T M) M.length with
  | some i => (i : Int)
  | none => -1
theorem rkT_isSome (M : List Mg) (a b : Int) : ∀ k, (rkT M k a b).isSome = (List.range k).any (fun j => decide ((gM M j).l = a ∧ (gM M j).r = b))
  | 0 => rfl
  | k + 1 => by
    rw [List.range_succ, List.any_append, ← rkT_isSome M a b k]
    show (if (gM M k).l = a ∧ (gM M k).r = b then some k else rkT M k a b).isSome = _
    by_cases h : (gM M k).l = a ∧ (gM M k).r = b
    · rw [if_pos h]
      have : decide ((gM M k).l = a ∧ (gM M k).r = b) = true := by simpa using h
      simp only [List.any_cons, List.any_nil, Bool.or_false, this, Bool.or_true, Option.isSome_some]
    · rw [if_neg h]
      have : decide ((gM M k).l = a ∧ (gM M k).r = b) = false := by simpa using h
      simp only [List.any_cons, List.any_nil, Bool.or_false, this]
set_option maxHeartbeats 2000000 in
set_option maxRecDepth 100000 in
theorem wrongMerge_any {p : Nat → Prop} (X : World) (tv mv : Value) (T : List (List UInt8)) (M : List Mg) (hT : TxR p X tv T) (hM : MgR p X mv M) (h64 : ∀ i, i < T.length → (gT T i).length ≤ 64) :
    Calls Try.prog 48 #[.agg #[tv, mv]] X fun e X' => e = .returned (zV (wrM T M)) ∧ Fresh X X' := by
  have HT : Hid (TxR (fun b => b < X.heap.size) X tv T) := hT.low
  have HM : Hid (MgR (fun b => b < X.heap.size) X mv M) := hM.low
  obtain ⟨ta, tc, htv⟩ := hT.shape
  obtain ⟨ma, mc, hmv⟩ := hM.shape
  have h64' := show Hid _ from h64
  have hml : M.length ≤ mc := by
    obtain ⟨ao, cap, e, _, e2, _⟩ := hM
    rw [hmv] at e
    injection e with _ _ e3
    omega
  subst htv hmv
  clear hT hM h64
  have hb0 : (X.alloc (.cells #[.slice ta T.length tc, .slice ma M.length mc] 49)).cell? ⟨X.heap.size, 0, none⟩ = some (.slice ta T.length tc) := by rw [World.cell?_alloc_new]; rfl
  have hb1 : (X.alloc (.cells #[.slice ta T.length tc, .slice ma M.length mc] 49)).cell? ⟨X.heap.size, 1, none⟩ = some (.slice ma M.length mc) := by rw [World.cell?_alloc_new]; rfl
  have HF1 : Hid (Fresh X (X.alloc (.cells #[.slice ta T.length tc, .slice ma M.length mc] 49))) := (Kept.refl _ X).alloc _
  have hz1 : X.heap.size < (X.alloc (.cells #[.slice ta T.length tc, .slice ma M.length mc] 49)).heap.size := by rw [World.size_alloc]; omega
  by_cases hbig : 1024 < M.length
  · have e : wrM T M = 1024 := if_pos hbig
    rw [e]
    clear HT HM e hb0 hb1
    generalize T.length = tn at *
    generalize M.length = mn at *
    go_enter Try.func48, Try.ntmps48
    go_wp2
    go_ret
    exact ⟨rfl, HF1.out⟩
  · have hmm : ∀ V : World, (Instr.makeMap 105 (some (.int .i64 (M.length : Int)))).run Try.prog V = .ok (.map (some V.heap.size)) (V.alloc (.map #[] 0)) := fun V => run_mm Try.underlying105 _ V
    have HW : Hid (∀ r, (∃ j, j < M.length ∧ bdM T M j = true ∧ (∀ i, i < j → bdM T M i = false) ∧ r = (j : Int)) ∨ ((∀ i, i < M.length → bdM T M i = false) ∧ r = -1) → wrM T M = r) := fun r hr => by
      unfold wrM
      rw [if_neg hbig]
      rcases hr with ⟨j, h1, h2, h3, rfl⟩ | ⟨h1, rfl⟩
      · rw [fdF_some h1 h2 h3]
      · rw [fdF_none h1]
    generalize wrM T M = WR at *
    generalize htt : T.length = tn at *
    generalize hkk : M.length = mn at *
    generalize hX1 : X.alloc (.cells #[.slice ta tn tc, .slice ma mn mc] 49) = X1 at *
    have HK0 : Hid (KM 107 (X1.alloc (.map #[] 0)) X1.heap.size 0 (rkV M 0)) := (KM.made 107 X1).congr (fun v => (rkV_zero M v).symm)
    have HF0 : Hid (Fresh X1 (X1.alloc (.map #[] 0))) := (Kept.refl _ X1).alloc _
    have b2 : ∀ o i, (X1.alloc o).cell? ⟨X.heap.size, i, none⟩ = X1.cell? ⟨X.heap.size, i, none⟩ := fun o i => World.cell?_alloc_lt X1 o _ hz1
    have HBx : Hid (∀ w, Fresh X1 w → w.cell? ⟨X.heap.size, 0, none⟩ = some (.slice ta tn tc) ∧ w.cell? ⟨X.heap.size, 1, none⟩ = some (.slice ma mn mc)) := fun w hk => ⟨(hk.cell (p := ⟨X.heap.size, 0, none⟩) hz1 (fun e => e)).trans hb0, (hk.cell (p := ⟨X.heap.size, 1, none⟩) hz1 (fun e => e)).trans hb1⟩
    go_enter Try.func48, Try.ntmps48
    go_wp2
    clear hmm b2 hb0 hb1
    go_loopw [20] (fun iv wr => ∃ j : Nat, j ≤ mn ∧ iv = zV j ∧ Hid (KM 107 wr X1.heap.size j (rkV M j) ∧ Fresh X1 wr) ∧ Hid (∀ i, i < j → bdM T M i = false)) (fun iv _ => mn - (RowKit.intOf iv).toNat)
    case atStart => exact ⟨0, Nat.zero_le _, rfl, ⟨HK0.out, HF0.out⟩, fun i hi => absurd hi (Nat.not_lt_zero _)⟩
    case round =>
      obtain ⟨j, hj, rfl, HQ, HB⟩ := hrel
      clear HK0 HF0
      by_cases hlt : j < mn
      · have hlt' : (j : Int) < (mn : Int) := by omega
        obtain ⟨ao, cap, hmv, _, _, hm64, hmc⟩ := HM.out.fresh (HF1.out.trans HQ.out.2 (fun _ _ e => e))
        injection hmv with e1 e2 e3
        subst e1 e3
        clear e2
        obtain ⟨b, off, rfl, _, hbX, hcells⟩ := hmc (by omega)
        obtain ⟨m0, m1, m2⟩ := hcells j (by omega)
        obtain ⟨i1, i2, _⟩ := hm64 j (by omega)
        obtain ⟨kl, hkl⟩ := pairKey i1 i2
        have hFa : Fresh wr ((wr.alloc (.cells #[.int .i64 (gM M j).l, .int .i64 (gM M j).r, .int .i64 (gM M j).o] 82)).alloc (.cells #[.int .i64 (gM M j).l, .int .i64 (gM M j).r] 107)) := ((Kept.refl _ wr).alloc _).alloc _
        have hK2 := HQ.out.1.kept hFa (fun e => e)
        have hlk := hK2.look pairKeyed Try.underlying105 hkl
        rw [rkV_pair, show ((rkT M j (gM M j).l (gM M j).r).map Int.ofNat).isSome = (List.range j).any (fun q => decide ((gM M q).l = (gM M j).l ∧ (gM M q).r = (gM M j).r)) by rw [Option.isSome_map, rkT_isSome]] at hlk
        generalize ((rkT M j (gM M j).l (gM M j).r).map Int.ofNat).getD 0 = lx at *
        have hbdd : bdM T M j = ((List.range j).any (fun q => decide ((gM M q).l = (gM M j).l ∧ (gM M q).r = (gM M j).r)) || !fiB T (gM M j)) := rfl
        generalize hag : (List.range j).any (fun q => decide ((gM M q).l = (gM M j).l ∧ (gM M q).r = (gM M j).r)) = ag at *
        clear hag
        have HFit : Hid (∀ W, Fresh wr W → Calls Try.prog 51 #[.slice ta tn tc, .agg #[zV (gM M j).l, zV (gM M j).r, zV (gM M j).o]] W fun e X' => e = .returned (.bool (fiB T (gM M j))) ∧ Fresh W X') := fun W hW => fits_any W _ T (gM M j) (HT.out.fresh ((HF1.out.trans HQ.out.2 (fun _ _ e => e)).trans hW (fun _ _ e => e))) (by rw [htt]; exact h64'.out)
        have HSt : Hid (∀ W, Fresh wr W → ∃ w', (Instr.mapUpdate 105 (.map (some X1.heap.size)) (pV (gM M j).l (gM M j).r) (.int .i64 (j : Int))).run Try.prog W = .ok () w' ∧ KM 107 w' X1.heap.size (j + 1) (rkV M (j + 1)) ∧ Fresh X1 w') := fun W hW => by
          obtain ⟨w', hst, hkm, hgr⟩ := (HQ.out.1.kept hW (fun e => e)).store pairKeyed Try.underlying105 (by unfold maxLen; omega) hkl (x := (j : Int)) (by constructor <;> omega) (rkV M (j + 1)) (by
            rw [rkV_pair]
            unfold rkT
            rw [if_pos ⟨rfl, rfl⟩]
            rfl) (fun key' kl' hne hk' => by
            unfold rkV
            split
            · rename_i a' b' he
              conv => lhs; unfold rkT
              rw [if_neg (fun e => ?_)]
              refine hne ?_
              cases key' with
              | agg c =>
                have hc : c.toList = [.int .i64 a', .int .i64 b'] := he
                have : c = #[.int .i64 a', .int .i64 b'] := by
                  apply Array.ext'
                  rw [hc]
                rw [this, ← e.1, ← e.2]
              | _ => simp [lstV] at he
            · rfl)
          exact ⟨w', hst, hkm, (HQ.out.2.trans hW (fun _ _ e => e)).trans ((Kept.refl (fun q => q = X1.heap.size) _).grown hgr (fun q _ e => by injection e with e; exact e.symm)) (fun q hq e => by have e' : q = X1.heap.size := e; omega)⟩
        obtain ⟨x0, x1⟩ := HBx.out _ (HQ.out.2.trans hFa (fun _ _ e => e))
        have HFX : Hid (Fresh X wr) := HF1.out.trans HQ.out.2 (fun _ _ e => e)
        have HBad : Hid (bdM T M j = true → WR = (j : Int)) := fun hb => HW.out (j : Int) (.inl ⟨j, by omega, hb, HB.out, rfl⟩)
        have HB2 : Hid (bdM T M j = false → ∀ i, i < j + 1 → bdM T M i = false) := fun hb i hi => by
          by_cases e : i = j
          · rw [e]; exact hb
          · exact HB.out i (by omega)
        have HFa := show Hid _ from hFa
        clear hK2 hFa hkl hm64 hmc hcells i1 i2 HW HB HQ
        have HBd := show Hid _ from hbdd
        clear hbdd
        generalize hfi : fiB T (gM M j) = fi at *
        clear hfi
        generalize (gM M j).l = ml at *
        generalize (gM M j).r = mr at *
        generalize (gM M j).o = mo at *
        cases ag with
        | true =>
          have HE := show Hid _ from HBad.out (by rw [HBd.out]; rfl)
          clear HBad HB2 HBd HFit HSt
          go_wp2
          go_ret
          exact ⟨by rw [HE.out]; rfl, HFX.out.trans HFa.out (fun _ _ e => e)⟩
        | false =>
          have HCall := show Hid _ from HFit.out _ HFa.out
          clear HFit
          go_wp2_with fail
          refine Calls.mono HCall.out ?_
          rintro e W3 ⟨rfl, hF3⟩
          clear HCall
          have HF3 : Hid (Fresh wr W3) := HFa.out.trans hF3 (fun _ _ e => e)
          cases fi with
          | false =>
            have HE := show Hid _ from HBad.out (by rw [HBd.out]; rfl)
            clear HBad HB2 HBd HSt hF3
            go_wp2
            go_ret
            exact ⟨by rw [HE.out]; rfl, HFX.out.trans HF3.out (fun _ _ e => e)⟩
          | true =>
            have HE := show Hid _ from HB2.out (by rw [HBd.out]; rfl)
            obtain ⟨w', hst, hkm, hfw⟩ := HSt.out W3 HF3.out
            have HN : Hid (KM 107 w' X1.heap.size (j + 1) (rkV M (j + 1)) ∧ Fresh X1 w') := ⟨hkm, hfw⟩
            have k0 : W3.cell? ⟨wr.heap.size + 1, 0, none⟩ = some (.int .i64 ml) := (hF3.cell (p := ⟨wr.heap.size + 1, 0, none⟩) (by simp) (fun e => e)).trans (by simp)
            have k1 : W3.cell? ⟨wr.heap.size + 1, 1, none⟩ = some (.int .i64 mr) := (hF3.cell (p := ⟨wr.heap.size + 1, 1, none⟩) (by simp) (fun e => e)).trans (by simp)
            clear HBad HB2 HBd HSt hF3 hkm hfw
            go_wp2
            go_roundw
            case rel => exact ⟨j + 1, hlt, by go_num, HN.out, HE.out⟩
            case measure => simp [RowKit.intOf]; omega
      · obtain rfl : j = mn := by omega
        have HE := show Hid _ from HW.out (-1) (.inr ⟨HB.out, rfl⟩)
        clear HW
        go_wp2
        go_ret
        exact ⟨by rw [HE.out]; rfl, HF1.out.trans HQ.out.2 (fun _ _ e => e)⟩
end Go.Proofs.Ytdponkpgokncdaa
