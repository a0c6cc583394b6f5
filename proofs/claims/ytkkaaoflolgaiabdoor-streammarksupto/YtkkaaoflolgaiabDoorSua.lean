/-
  Marks: the program's.
-/
import Derived.Test.YtkkaaoflolgaiabDoorStz
import Derived.Lib.AppendZeros
namespace Go.Proofs.YtkkaaoflolgaiabDoor
open Go.ChangeShapes Go.WideShapes Go.ChangeAt Go.RowKit Go.Lib Go.Maps

theorem ownr_ge {w : World} {base k : Nat} {e : TypeId} {v : Value} {n q : Nat} {xs : List Value} (h : w.ownsRow base e k v n xs) (hk : v.ownBlock = some q) : base ≤ q ∧ q < w.heap.size := by
  rcases h.2 with ⟨rfl, _⟩ | ⟨g', cap', cur, hv, hb, hh, _⟩
  · simp [Value.ownBlock] at hk
  · rw [hv] at hk
    have hgq : g' = q := by simpa [Value.ownBlock] using hk
    subst hgq
    exact ⟨hb, lt_of_heap hh⟩
theorem InR.any {p : Nat → Prop} {W : World} {v : Value} {L : List Int} (h : InR p W v L) : InR (fun _ => True) W v L := by
  obtain ⟨ao, cap, h1, h2, h3, h4, h6, h5⟩ := h
  exact ⟨ao, cap, h1, h2, h3, h4, h6, fun h0 => let ⟨b, off, ha, _, hb, hc⟩ := h5 h0; ⟨b, off, ha, trivial, hb, hc⟩⟩
theorem madeZ (n : Nat) : madeCells (Value.int .i64 0).cells (n * 1) = ((List.replicate n (0 : Int)).map zV).toArray := by
  rw [Nat.mul_one]
  have h : ∀ x : Nat, (Value.int .i64 0).cells[x % (Value.int .i64 0).cells.size]! = zV 0 := fun x => by
    have : x % (Value.int .i64 0).cells.size = 0 := Nat.mod_one x
    rw [this]; rfl
  unfold madeCells
  simp only [h]
  apply Array.ext'
  simp [List.map_const']
theorem StM.outc {F : Nat → Prop} {w : World} {b : Nat} {T : List (List UInt8)} {out held : List UInt8} {en mt : Bool} {met : Int} (h : StM F w b T out held en mt met) : ∃ ao cp, w.cell? ⟨b, 1, none⟩ = some (.slice ao out.length cp) := by
  obtain ⟨sv, ov, h⟩ := h
  obtain ⟨ao, cp, e⟩ := ownsRow_shape h.own
  exact ⟨ao, cp, by rw [← e]; exact h.cell.2.1⟩
/-- One mark behind a row of marks, apart from a stream. -/
theorem mark_push {F : Nat → Prop} {W : World} {b B : Nat} {T : List (List UInt8)} {out held : List UInt8} {en mt : Bool} {met : Int} {mv : Value} {L : List Int} (z : Int) (w : World) (hS : StM F W b T out held en mt met) (hap : ∀ q, F q → mv.ownBlock ≠ some q)
    (hown : W.ownsRow B 3 1 mv L.length (L.map zV)) (hB : w.heap.size ≤ B) (hBW : B ≤ W.heap.size) (hL : L.length ≤ 1048577) (hF : Fresh w W) :
    ∃ ao n cp W', (Builtin.append_ #[24, 24] 24 #[mv, .slice (some ⟨W.heap.size, 0, none⟩) 1 1]).run Tryd.prog (W.alloc (.cells #[zV z] 3)) = .ok (.slice ao n cp) W' ∧
      W'.ownsRow B 3 1 (.slice ao n cp) (L ++ [z]).length ((L ++ [z]).map zV) ∧ StM F W' b T out held en mt met ∧ Fresh w W' := by
  obtain ⟨v', X', h1, h2, h3⟩ := pushI W B mv L z hown hL hBW
  obtain ⟨ao, cp, rfl⟩ := ownsRow_shape h2
  exact ⟨ao, _, cp, X', h1, h2, hS.kept h3 (fun q hq e => hap q hq e), hF.trans h3 (fun i hi e => by have := (ownr_ge hown e).1; omega)⟩
set_option maxHeartbeats 4000000 in
set_option maxRecDepth 100000 in
theorem Marks_any {p : Nat → Prop} (T : List (List UInt8)) (v : Value) (w : World) (hR : TxR p w v T) (hb : (caF T T.length).length ≤ 1048576) (hm : TbM w) :
    Calls Tryd.prog 9 #[v] w fun e w' => ∃ rv, e = .returned rv ∧ InR (fun _ => True) w' rv (mkL T) ∧ Fresh w w' := by
  obtain ⟨ao, cap, rfl⟩ := hR.shape
  have h20 := hR.len
  have h3 : 3 ≤ w.heap.size := hm.size
  have HR : Hid (∀ W, Fresh w W → TxR p W (.slice ao T.length cap) T) := fun W hk => hR.fresh hk
  have HT : Hid (∀ W, Fresh w W → TbM W) := fun W hk => hm.fresh hk
  have hel := hR.each
  have HEl : Hid (∀ i, i < T.length → (tX T i).length ≤ 1048576) := hel
  obtain ⟨i0, hi, hz0, hz1, hz2⟩ := info_parts intInfo
  have hmk : ∀ (W : World), (Instr.makeSlice 24 (.int .i64 0) (.int .i64 ((T.length : Int) + 1))).run Tryd.prog W = .ok (.slice (some ⟨W.heap.size, 0, none⟩) 0 (T.length + 1)) (W.alloc (.cells ((List.replicate (T.length + 1) (0 : Int)).map zV).toArray 3)) := fun W => by
    have h := run_make (P := Tryd.prog) W 24 3 i0 _ Tryd.underlying24 hi hz0 .i64 .i64 (0 : Int) (((T.length + 1 : Nat)) : Int) (by omega) (by omega) (by rw [hz2]; omega) (by omega)
    rw [hz1] at h
    simp only [Int.toNat_natCast] at h
    rw [madeZ] at h
    simpa using h
  have HI : Hid (∀ i, i < T.length + 1 → I64 (gI (mkL T) i)) := fun i hi => by have := mkL_bd T hb i hi; exact ⟨by omega, by omega⟩
  have HSt : Hid (∀ i, i < T.length → (clL (goF [] (caF T i))).length ≤ 900000000000) := fun i hi => by
    have h1 := clL_le (goF [] (caF T i))
    have h2 : (goF [] (caF T i)).length ≤ (caF T i).length := by unfold goF; rw [List.length_take]; omega
    have h3 := caF_le (T := T) (i := i) (n := T.length) (by omega)
    omega
  have HEnd : Hid ((clL (goF [] (caF T T.length))).length ≤ 900000000000) := by
    have h1 := clL_le (goF [] (caF T T.length))
    have h2 : (goF [] (caF T T.length)).length ≤ (caF T T.length).length := by unfold goF; rw [List.length_take]; omega
    show _ ≤ _
    omega
  have hl0 : Hid (mkL T = mk0 T T.length ++ [((clL (caF T T.length)).length : Int)]) := rfl
  have HLen : Hid ((mkL T).length ≤ 1048577) := by show _ ≤ _; rw [mkL_len]; omega
  have hF0 : Fresh w ((w.alloc (.cells #[.slice none 0 0, .slice none 0 0, sV [], .bool false, .bool false, zV 0] 57)).alloc (.cells (Array.replicate (T.length + 1) (zV 0)) 3)) := ((Kept.refl _ w).alloc _).alloc _
  have HF0 : Hid (Fresh w ((w.alloc (.cells #[.slice none 0 0, .slice none 0 0, sV [], .bool false, .bool false, zV 0] 57)).alloc (.cells (Array.replicate (T.length + 1) (zV 0)) 3))) := hF0
  have HS0 : Hid (StM (fun q => q = w.heap.size) ((w.alloc (.cells #[.slice none 0 0, .slice none 0 0, sV [], .bool false, .bool false, zV 0] 57)).alloc (.cells (Array.replicate (T.length + 1) (zV 0)) 3)) w.heap.size [] [] [] false false 0) := by
    have h1 : StM (fun q => q = w.heap.size) (w.alloc (.cells #[.slice none 0 0, .slice none 0 0, sV [], .bool false, .bool false, zV 0] 57)) w.heap.size [] [] [] false false 0 :=
      ⟨.slice none 0 0, .slice none 0 0, heap_alloc_new _ _, ⟨none, 0, rfl, fun _ => rfl, Nat.le_refl _, fun i hi => absurd hi (Nat.not_lt_zero _), by simp, fun h => absurd h (Nat.lt_irrefl _)⟩, World.ownsRow_nil _ _ _ _, rfl, fun g hg => by simp [Value.ownBlock] at hg, fun g hg => by omega⟩
    exact h1.fresh ((Kept.refl _ _).alloc _)
  have HO0 : Hid (((w.alloc (.cells #[.slice none 0 0, .slice none 0 0, sV [], .bool false, .bool false, zV 0] 57)).alloc (.cells (Array.replicate (T.length + 1) (zV 0)) 3)).ownsRow w.heap.size 3 1 (.slice (some ⟨w.heap.size + 1, 0, none⟩) 0 (T.length + 1)) (mk0 T 0).length ((mk0 T 0).map zV)) := by
    have h1 := own_madeI (w.alloc (.cells #[.slice none 0 0, .slice none 0 0, sV [], .bool false, .bool false, zV 0] 57)) w.heap.size (by rw [World.size_alloc]; omega) (T.length + 1) (by omega) _ rfl
    rw [World.size_alloc, show ((List.replicate (T.length + 1) (0 : Int)).map zV).toArray = Array.replicate (T.length + 1) (zV 0) by simp] at h1
    exact h1
  clear hR hm hel hF0
  generalize hn : T.length = n at *
  have HT2 : Hid (T.length = n) := hn
  clear hi hz0 hz1 hz2 hn
  go_enter Tryd.func9, Tryd.ntmps9
  go_wp2
  go_loopw [4, 13] (fun mv iv wr => ∃ (i : Nat) (F : Nat → Prop) (ma : Option Addr) (mn mc : Nat), i ≤ n ∧ iv = zV i ∧ mv = .slice ma mn mc ∧ Hid (wr.ownsRow w.heap.size 3 1 (.slice ma mn mc) (mk0 T i).length ((mk0 T i).map zV)) ∧ Hid (StM F wr w.heap.size [] (clL (goF [] (caF T i))) (hldF [] (caF T i)) false false 0) ∧ Hid (Nw0 w F) ∧ Hid (Fresh w wr)) (fun _ iv _ => n - (RowKit.intOf iv).toNat)
  case atStart => exact ⟨0, _, _, _, _, Nat.zero_le _, rfl, rfl, HO0, HS0, fun q hq => Nat.le_of_eq hq.symm, HF0⟩
  case round =>
    obtain ⟨i, F, ma, mn, mc, hi, rfl, rfl, HOwn, HS, HN, HF⟩ := hrel
    clear HF0 HS0 HO0 hmk
    obtain ⟨F0, hS0, hsub, hap⟩ := HS.out.min
    have HAp : Hid (∀ q, F0 q → (Value.slice ma mn mc).ownBlock ≠ some q) := hap _ _ _ _ HOwn.out
    have HN0 : Hid (Nw0 w F0) := fun q hq => HN.out q (hsub q hq)
    by_cases hlt : i < n
    · have hlt' : (i : Int) < (n : Int) := by omega
      obtain ⟨bq, off, rfl, _, hbl, hcell⟩ := (HR.out wr HF.out).cells.2.2 (by omega)
      have c0 := hcell i hlt
      have HFd := show Hid _ from Feed_live (tX T i) hS0 (by rw [List.length_append]; have := hldF_63 gdT_nil (caF T i); have := HEl.out i hlt; omega) (HSt.out i hlt) gdT_nil (HT.out wr HF.out)
      have HM := show Hid _ from mk_step T i
      have HHd := show Hid _ from hold_step T i
      clear hcell hS0 hsub hap HS HN
      generalize tX T i = x at *
      go_wp2_with fail
      refine Calls.mono HFd.out ?_
      rintro e' W1 ⟨_, h2⟩
      obtain ⟨rfl, F1, hS1, hM1⟩ := h2 (cuM_nil _)
      rw [HM.out, HHd.out] at hS1
      obtain ⟨hF1, hN1⟩ := mvd_fresh HF.out HN0.out hM1
      have hown1 := owns_kept HOwn.out hM1.1 (fun g hg e => HAp.out g e hg)
      have hap1 : ∀ q, F1 q → (Value.slice ma mn mc).ownBlock ≠ some q := fun q hq e => (hM1.2.2 q hq).elim (fun h => HAp.out q h e) (fun h => by have := (ownr_ge HOwn.out e).2; omega)
      obtain ⟨oa, oc, c1⟩ := hS1.outc
      obtain ⟨a2, n2, k2, W2, hr2, ho2, hS2, hF2⟩ := mark_push (mkN T (i + 1) : Int) w hS1 hap1 hown1 (Nat.le_refl _) hF1.size (by rw [mk0_len]; omega) hF1
      have HOwn2 : Hid (W2.ownsRow w.heap.size 3 1 (.slice a2 n2 k2) (mk0 T (i + 1)).length ((mk0 T (i + 1)).map zV)) := ho2
      have HS2 : Hid (StM F1 W2 w.heap.size [] (clL (goF [] (caF T (i + 1)))) (hldF [] (caF T (i + 1))) false false 0) := hS2
      have HN1 : Hid (Nw0 w F1) := hN1
      have HF2 : Hid (Fresh w W2) := hF2
      change W1.cell? _ = some (.slice oa (mkN T (i + 1)) oc) at c1
      clear HFd HM HHd h2 hS1 hM1 hF1 hN1 hown1 hap1 ho2 hS2 hF2 HOwn HAp HN0 HF c0
      generalize mkN T (i + 1) = mk at hr2 c1
      go_wp2_with (at_builtin; refine Lib.wpList_append_run _ rfl _ _ _ _ rfl _ _ rfl rfl _ _ hr2 ?_)
      go_roundw
      case rel => exact ⟨i + 1, F1, a2, n2, k2, by omega, by go_num, rfl, HOwn2, HS2, HN1, HF2⟩
      case measure => simp [RowKit.intOf]; omega
    · have hlt' : ¬ (i : Int) < (n : Int) := by omega
      have hin : i = n := by omega
      subst hin
      have HE := show Hid _ from End_live hS0 (by have := hldF_63 gdT_nil (caF T i); omega) HEnd.out
      have HC := show Hid _ from cl_end gdT_nil (caF T i)
      have HL : Hid (mkL T = mk0 T i ++ [((clL (caF T i)).length : Int)]) := hl0.out
      clear hS0 hsub hap HS HN hl0
      go_wp2_with fail
      refine Calls.mono HE.out ?_
      rintro e' W1 ⟨rfl, F1, hS1, hM1⟩
      rw [← HC.out] at hS1
      obtain ⟨hF1, hN1⟩ := mvd_fresh HF.out HN0.out hM1
      have hown1 := owns_kept HOwn.out hM1.1 (fun g hg e => HAp.out g e hg)
      have hap1 : ∀ q, F1 q → (Value.slice ma mn mc).ownBlock ≠ some q := fun q hq e => (hM1.2.2 q hq).elim (fun h => HAp.out q h e) (fun h => by have := (ownr_ge HOwn.out e).2; omega)
      obtain ⟨oa, oc, c1⟩ := hS1.outc
      obtain ⟨a2, n2, k2, W2, hr2, ho2, hS2, hF2⟩ := mark_push ((clL (caF T i)).length : Int) w hS1 hap1 hown1 (Nat.le_refl _) hF1.size (by rw [mk0_len]; omega) hF1
      rw [← HL.out] at ho2
      have HI2 : Hid (InR (fun _ => True) W2 (.slice a2 n2 k2) (mkL T)) := (inr_of_own ho2 (fun q hq => HI.out q (by rw [mkL_len, HT2.out] at hq; exact hq)) HLen.out).any
      have HF2 : Hid (Fresh w W2) := hF2
      clear HE HC HL hS1 hM1 hF1 hN1 hown1 hap1 ho2 hS2 hF2 HOwn HAp HN0 HF HI HLen
      generalize (clL (caF T i)).length = mk at hr2 c1
      go_wp2_with (at_builtin; refine Lib.wpList_append_run _ rfl _ _ _ _ rfl _ _ rfl rfl _ _ hr2 ?_)
      go_ret
      exact ⟨_, rfl, HI2.out, HF2.out⟩
end Go.Proofs.YtkkaaoflolgaiabDoor
