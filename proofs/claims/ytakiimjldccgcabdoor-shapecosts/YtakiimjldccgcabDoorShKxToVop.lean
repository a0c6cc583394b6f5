/-
  Which block is wrong: the walk.
-/
import Derived.Test.YtakiimjldccgcabDoorShKwToShKy
import Derived.Test.YtakiimjldccgcabDoorVodToVomT
namespace Go.Proofs.YtakiimjldccgcabDoor
open Go.RowKit Go.Lib Go.Maps

theorem bkS_no {b : Bk} {i : Nat} (hi : i < 8) (h : wiB (b.sh.getD i 0) 0 31 = false) : bkS b = false := by
  unfold bkS
  rw [List.all_eq_false]
  refine ⟨b.sh.getD i 0, ?_, by rw [h]; simp⟩
  have hl : i < b.sh.length := hi
  show (b.sh[i]?).getD 0 ∈ b.sh
  rw [List.getElem?_eq_getElem hl]
  exact List.getElem_mem hl
theorem bkS_yes {b : Bk} (h : ∀ i, i < 8 → wiB (b.sh.getD i 0) 0 31 = true) : bkS b = true := by
  unfold bkS
  rw [List.all_eq_true]
  intro x hx
  obtain ⟨i, hi, rfl⟩ := List.getElem_of_mem hx
  have h2 : b.sh.getD i 0 = b.sh[i] := by
    show (b.sh[i]?).getD 0 = _
    rw [List.getElem?_eq_getElem hi]
    rfl
  rw [← h2]
  exact h i hi
theorem newAt {w wr V : World} (h : Fresh w wr) {z : Array Value} {t : TypeId} (hk : Kept (fun q => q = wr.heap.size) (wr.alloc (.cells z t)) V) : Fresh w V := by
  have h1 : Fresh w (wr.alloc (.cells z t)) := h.alloc _
  exact h1.trans hk (fun q hq e => by
    have e' : q = wr.heap.size := e
    have := h.size
    omega)
set_option maxHeartbeats 4000000 in
set_option maxRecDepth 100000 in
theorem wrongBlock_any {p : Nat → Prop} (L : List Bk) (bv : Value) (l a1 a2 : Int) (A B D : Nat) (w : World) (hL : BkR p w bv L) :
    Calls Tryd.prog 61 #[bv, zV l, .agg #[zV a1, zV a2, zV (D : Int), zV (A : Int), zV (B : Int)]] w fun e w' => e = .returned (.tuple #[zV (wbG l A B D 0 L).1, zV (wbG l A B D 0 L).2]) ∧ Fresh w w' := by
  obtain ⟨ao, cap, rfl⟩ := hL.shape
  have HL : Hid (0 < L.length → _) := fun h0 => (hL.blk h0)
  have HPART : Hid (∀ i, i < L.length → _ → _) := fun i h hb => wbG_part (l := l) (A := A) (B := B) (D := D) (L := L) (i := i) h hb
  have HSHIFT : Hid (∀ i, i < L.length → _ → _ → _ → _) := fun i h h1 h2 h3 => wbG_shift (l := l) (A := A) (B := B) (D := D) (L := L) (i := i) h h1 h2 h3
  have HNEXT : Hid (∀ i, i < L.length → _ → _ → _ → _) := fun i h h1 h2 h3 => wbG_next (l := l) (A := A) (B := B) (D := D) (L := L) (i := i) h h1 h2 h3
  have HEND := show Hid _ from wbG_end (l := l) (A := A) (B := B) (D := D) (L := L)
  have HS : Hid (∀ X, Fresh (w.alloc (.cells #[zV a1, zV a2, zV (D : Int), zV (A : Int), zV (B : Int)] 81)) X → X.heap[w.heap.size]? = some (.cells #[zV a1, zV a2, zV (D : Int), zV (A : Int), zV (B : Int)] 81 (0, 0))) := box17 w _ _
  have hcap : L.length ≤ cap ∧ L.length * 280 ≤ 140737488351232 := by
    obtain ⟨ao', cap', hv, _, h3, h4, _⟩ := hL
    injection hv with _ _ e3
    omega
  have HST : Hid (wbG l A B D 0 L = wbG l A B D 0 (L.drop 0)) := by show _ = _; rw [List.drop_zero]
  obtain ⟨R, hR⟩ : ∃ R, wbG l A B D 0 L = R := ⟨_, rfl⟩
  rw [hR] at HST ⊢
  clear hL hR
  obtain ⟨n, hn⟩ : ∃ n, L.length = n := ⟨_, rfl⟩
  rw [hn] at HPART HSHIFT HNEXT HEND HL hcap ⊢
  clear hn
  obtain ⟨hcap, hn47⟩ := hcap
  go_enter Tryd.func61, Tryd.ntmps61
  go_wp2
  go_loopw [14] (fun iv wr => ∃ j : Nat, j ≤ n ∧ iv = zV j ∧ Hid (Fresh (w.alloc (.cells #[zV a1, zV a2, zV (D : Int), zV (A : Int), zV (B : Int)] 81)) wr ∧ R = wbG l A B D j (L.drop j))) (fun iv _ => n - (RowKit.intOf iv).toNat)
  case atStart => exact ⟨0, Nat.zero_le _, rfl, Kept.refl _ _, HST.out⟩
  case round =>
    obtain ⟨j, hj, rfl, HA⟩ := hrel
    by_cases hlt : j < n
    · have hlt' : (j : Int) < (n : Int) := by omega
      have h0j : (0 : Int) ≤ (j : Int) := by omega
      obtain ⟨_, hcp, b, off, rfl, HAT⟩ := HL.out (by omega)
      have hfw : Fresh w wr := ((Kept.refl _ w).alloc _).trans HA.out.1 (fun _ _ e => e)
      obtain ⟨C, hld, hbc⟩ := HAT hfw (fun _ _ e => e) j hlt
      have hs := HS.out wr HA.out.1
      have HPA : Hid ((j : Int) = l ∨ bkW (gBk L j) A B D = false → R = ((j : Int), 161)) := fun h => HA.out.2.trans (HPART.out j hlt h)
      have HSH : Hid ((j : Int) ≠ l → bkW (gBk L j) A B D = true → bkS (gBk L j) = false → R = ((j : Int), 162)) := fun h1 h2 h3 => HA.out.2.trans (HSHIFT.out j hlt h1 h2 h3)
      have HNX : Hid ((j : Int) ≠ l → bkW (gBk L j) A B D = true → bkS (gBk L j) = true → R = wbG l A B D (j + 1) (L.drop (j + 1))) := fun h1 h2 h3 => HA.out.2.trans (HNEXT.out j hlt h1 h2 h3)
      have HIW : Hid (∀ X, _) := fun X => isWholeB_any hbc a1 a2 A B D X
      have HSO : Hid (∀ X, Calls Tryd.prog 64 #[.agg C] X fun e w' => ∃ G, e = .returned (.agg G) ∧ (∀ c, c < 8 → G[c]? = some (zV ((gBk L j).sh.getD c 0))) ∧ Fresh X w') := fun X => (shiftsOfB_any hbc X).mono fun e w' ⟨h1, h2⟩ => ⟨_, h1, fun c hc => sh_get _ hc, h2⟩
      have HWI : Hid (∀ x W, Calls Tryd.prog 24 #[zV x, zV 0, zV 31] W fun e w' => ∃ B, wiB x 0 31 = B ∧ e = .returned (.bool B) ∧ w' = W) := fun x W => (within_any x 0 31 W).mono fun e w' ⟨h1, h2⟩ => ⟨_, rfl, h1, h2⟩
      have HLD := show Hid _ from hld
      have HC := show Hid _ from hbc.size
      have HC1 := show Hid _ from hbc.one
      have HFW := show Hid _ from hfw
      have HWS := show Hid _ from HA.out.1
      have HNO : Hid (∀ i, i < 8 → wiB ((gBk L j).sh.getD i 0) 0 31 = false → bkS (gBk L j) = false) := fun i hi h => bkS_no hi h
      have HYES : Hid ((∀ i, i < 8 → wiB ((gBk L j).sh.getD i 0) 0 31 = true) → bkS (gBk L j) = true) := fun h => bkS_yes h
      clear HA hs hfw HAT HPART HSHIFT HNEXT HEND HL HST hld hbc
      have hnew := heap_alloc_new wr (.cells (blkC nil8 nil8 nil8 nil8 nil8 nil8 0 0 0 0 0 nil8 nil8 nil8 0 0 0) 72)
      unfold blkC at hnew
      obtain ⟨F, hF⟩ : ∃ F, bkW (gBk L j) A B D = F := ⟨_, rfl⟩
      obtain ⟨S, hS⟩ : ∃ S, bkS (gBk L j) = S := ⟨_, rfl⟩
      rw [hF] at HPA HSH HNX HIW
      rw [hS] at HSH HNX HNO HYES
      clear hF hS
      generalize (gBk L j).sh = SH at *
      go_upto_region 4 with (first | (refine wpList_loadAt rfl _ _ rfl b (off + j * 17) rfl C HLD.out ?_) | (refine list_store rfl 72 _ _ rfl wr.heap.size _ _ 72 rfl rfl hnew HC.out.symm (by rw [HC.out]; exact blkSize) HC1.out ?_; intro V hV hkV))
      have HVW : Hid (Fresh (w.alloc (.cells #[zV a1, zV a2, zV (D : Int), zV (A : Int), zV (B : Int)] 81)) V) := newAt HWS.out hkV
      have HFV : Hid (Fresh w V) := newAt HFW.out hkV
      have HV := show Hid _ from hV
      have hs := HS.out V HVW.out
      have s0 : V.cell? ⟨w.heap.size, 0, none⟩ = some (zV a1) := by rw [Lib.cell_of_heap hs]; rfl
      have s1 : V.cell? ⟨w.heap.size, 1, none⟩ = some (zV a2) := by rw [Lib.cell_of_heap hs]; rfl
      have s2 : V.cell? ⟨w.heap.size, 2, none⟩ = some (zV (D : Int)) := by rw [Lib.cell_of_heap hs]; rfl
      have s3 : V.cell? ⟨w.heap.size, 3, none⟩ = some (zV (A : Int)) := by rw [Lib.cell_of_heap hs]; rfl
      have s4 : V.cell? ⟨w.heap.size, 4, none⟩ = some (zV (B : Int)) := by rw [Lib.cell_of_heap hs]; rfl
      have HCS : Hid ((Tryd.prog.info? 72).map (·.size) = some C.size) := by show _ = _; rw [HC.out]; exact blkSize
      clear hkV hV hnew hs HWS HLD HC1
      by_cases hl : (j : Int) = l
      · have hl' : ((j : Int) == l) = true := beq_iff_eq.2 hl
        have HRR : Hid (R = ((j : Int), 161)) := HPA.out (.inl hl)
        clear hl HPA HSH HNX
        go_wp2
        go_ret2
        exact ⟨by rw [HRR.out]; rfl, HFV.out⟩
      · have hl' : ((j : Int) == l) = false := beq_eq_false_iff_ne.2 hl
        have HNL : Hid ((j : Int) ≠ l) := hl
        clear hl
        have HLV : Hid ((loadVar 72 ⟨wr.heap.size, 0, none⟩).run Tryd.prog V = .ok (.agg C) V) := run_loadVar_row V wr.heap.size 72 72 C _ _ HV.out Tryd.underlying72 rfl HCS.out
        go_wp2_with (refine wpList_loadAt_w rfl 72 _ rfl wr.heap.size 0 rfl C HLV.out ?_)
        refine Calls.mono (HIW.out _) ?_
        rintro e X ⟨rfl, hf⟩
        have HX : Hid (Fresh w X) := HFV.out.trans hf (fun _ _ e => e)
        have HXS : Hid (Fresh (w.alloc (.cells #[zV a1, zV a2, zV (D : Int), zV (A : Int), zV (B : Int)] 81)) X) := HVW.out.trans hf (fun _ _ e => e)
        have HXV : Hid (X.heap[wr.heap.size]? = some (.cells C 72 (0, 0))) := hf.at HV.out (fun e => e)
        clear HIW hf HFV HVW HV s0 s1 s2 s3 s4
        cases F with
        | false =>
          have HRR : Hid (R = ((j : Int), 161)) := HPA.out (.inr rfl)
          clear HPA HSH HNX
          go_wp2
          go_ret2
          exact ⟨by rw [HRR.out]; rfl, HX.out⟩
        | true =>
          clear HPA
          go_wp2_with (refine wpList_load_row rfl 72 _ rfl wr.heap.size rfl 72 C _ _ HXV.out Tryd.underlying72 rfl HCS.out ?_)
          refine Calls.mono (HSO.out _) ?_
          rintro e Y ⟨G, rfl, hG, hf⟩
          have HG := show Hid _ from hG
          have HY : Hid (Fresh w Y ∧ Fresh (w.alloc (.cells #[zV a1, zV a2, zV (D : Int), zV (A : Int), zV (B : Int)] 81)) Y) := ⟨HX.out.trans hf (fun _ _ e => e), HXS.out.trans hf (fun _ _ e => e)⟩
          clear hf HX HXS HSO HXV hG HCS
          go_wp2
          go_loopw [31] (fun iv wx => ∃ k : Nat, k ≤ 8 ∧ iv = zV k ∧ Hid (wx = Y ∧ ∀ i, i < k → wiB (SH.getD i 0) 0 31 = true)) (fun iv _ => 8 - (RowKit.intOf iv).toNat)
          case atStart => exact ⟨0, by omega, rfl, rfl, fun i h => absurd h (Nat.not_lt_zero _)⟩
          case round =>
            obtain ⟨k, hk, rfl, HA⟩ := hrel
            obtain ⟨rfl, hA⟩ := HA.out
            clear HA
            have HA := show Hid _ from hA
            clear hA
            by_cases hlk : k < 8
            · have hlk' : (k : Int) < 8 := by omega
              have h0k : (0 : Int) ≤ (k : Int) := by omega
              have hix := run_index8 hlk (HG.out k hlk)
              obtain ⟨x, hx⟩ : ∃ x, SH.getD k 0 = x := ⟨_, rfl⟩
              rw [hx] at hix
              have HXE : Hid (SH.getD k 0 = x) := hx
              clear hx
              go_wp2_with fail
              refine Calls.mono (HWI.out _ _) ?_
              rintro e Z ⟨B2, hB, rfl, rfl⟩
              cases B2 with
              | true =>
                have HNA : Hid (∀ i, i < k + 1 → wiB (SH.getD i 0) 0 31 = true) := fun i hi => by
                  rcases Nat.lt_or_ge i k with e | e
                  · exact HA.out i e
                  · rw [show i = k by omega, HXE.out]; exact hB
                clear hix HA hB
                go_wp2
                go_roundw
                case rel => exact ⟨k + 1, by omega, by go_num, trivial, HNA.out⟩
                case measure => simp [RowKit.intOf]; omega
              | false =>
                have HRR : Hid (R = ((j : Int), 162)) := HSH.out HNL.out trivial (HNO.out k hlk (by rw [HXE.out]; exact hB))
                clear hix HA hB HSH HNX
                go_wp2
                go_ret2
                exact ⟨by rw [HRR.out]; rfl, HY.out.1⟩
            · obtain rfl : k = 8 := by omega
              have HRN : Hid (R = wbG l A B D (j + 1) (L.drop (j + 1))) := HNX.out HNL.out trivial (HYES.out HA.out)
              clear HSH HNX HA
              go_wp2
              go_roundw
              case rel => exact ⟨j + 1, hlt, by go_num, HY.out.2, HRN.out⟩
              case measure => simp [RowKit.intOf]; omega
    · obtain rfl : j = n := by omega
      have hlt' : ¬ ((j : Int) < (j : Int)) := by omega
      have HFW : Hid (Fresh w wr) := ((Kept.refl _ w).alloc _).trans HA.out.1 (fun _ _ e => e)
      have HRE : Hid (R = if (j : Int) < l then ((j : Int), 161) else (0, 0)) := HA.out.2.trans HEND.out
      clear HA HPART HSHIFT HNEXT HEND HL HST HS
      by_cases hl : (j : Int) < l
      · have HRR : Hid (R = ((j : Int), 161)) := HRE.out.trans (if_pos hl)
        clear HRE
        go_wp2
        go_ret2
        exact ⟨by rw [HRR.out]; rfl, HFW.out⟩
      · have HRR : Hid (R = (0, 0)) := HRE.out.trans (if_neg hl)
        clear HRE
        go_wp2
        go_ret2
        exact ⟨by rw [HRR.out]; rfl, HFW.out⟩
end Go.Proofs.YtakiimjldccgcabDoor

/-
  A map is made; maps that tell the same.
-/
namespace Go.Proofs.YtakiimjldccgcabDoor
open Go.RowKit Go.Lib Go.Maps

theorem run_mm {t k e : TypeId} (ht : Tryd.prog.underlying t = some (.map k e)) (n : Int) (w : World) : (Instr.makeMap t (some (.int .i64 n))).run Tryd.prog w = .ok (.map (some w.heap.size)) (w.alloc (.map #[] 0)) := by
  simp [Instr.makeMap, run_underlying ht, asInt, Result.andThen]
  rfl
theorem KM.congr {k : TypeId} {w : World} {M n : Nat} {f g : Value → Option Int} (h : KM k w M n f) (e : ∀ v, f v = g v) : KM k w M n g := by
  have : f = g := funext e
  rw [← this]; exact h
theorem rkV_zero (M : List Mg) (v : Value) : rkV M 0 v = none := by
  unfold rkV
  split
  · rfl
  · rfl
end Go.Proofs.YtakiimjldccgcabDoor

/-
  Which texts are right.
-/
namespace Go.Proofs.YtakiimjldccgcabDoor
open Go.RowKit Go.Lib Go.Maps

/-- Is something wrong with a text at its place? -/
def bdT (T : List (List UInt8)) (i : Nat) : Bool := (List.range i).any (fun j => gT T j == gT T i) || ((i == 0) != (gT T i == [])) || decide (64 < (gT T i).length)
/-- The first place at which something is wrong. -/
def fdF (f : Nat → Bool) (n : Nat) : Option Nat := (List.range n).find? f
theorem fdF_none {f : Nat → Bool} {n : Nat} (h : ∀ i, i < n → f i = false) : fdF f n = none := by
  unfold fdF
  rw [List.find?_eq_none]
  intro x hx
  rw [h x (List.mem_range.1 hx)]
  simp
theorem fdF_some {f : Nat → Bool} {n j : Nat} (hj : j < n) (hb : f j = true) (h : ∀ i, i < j → f i = false) : fdF f n = some j := by
  unfold fdF
  have e : List.range n = List.range j ++ (j :: (List.range (n - j - 1)).map (fun q => j + 1 + q)) := by
    apply List.ext_getElem
    · simp; omega
    · intro i h1 h2
      rcases Nat.lt_trichotomy i j with e | e | e
      · rw [List.getElem_append_left (by simpa using e)]; simp
      · subst e; rw [List.getElem_append_right (by simp)]; simp
      · rw [List.getElem_append_right (by simp; omega)]
        obtain ⟨q, rfl⟩ : ∃ q, i = j + 1 + q := ⟨i - j - 1, by omega⟩
        simp only [List.getElem_range, List.length_range]
        rw [show ∀ (hh : j + 1 + q - j < (j :: (List.range (n - j - 1)).map (fun q => j + 1 + q)).length), (j :: (List.range (n - j - 1)).map (fun q => j + 1 + q))[j + 1 + q - j]'hh = j + 1 + q from fun hh => by
          simp only [show j + 1 + q - j = q + 1 by omega, List.getElem_cons_succ, List.getElem_map, List.getElem_range]]
  rw [e, List.find?_append, List.find?_eq_none.2 (fun x hx => by rw [h x (List.mem_range.1 hx)]; simp), List.find?_cons, hb]
  rfl
/-- What Check tells of texts. -/
def wrT (T : List (List UInt8)) : Int := if 512 < T.length then 512 else match fdF (bdT T) T.length with
  | some i => (i : Int)
  | none => if T.length < 2 then (T.length : Int) else -1
/-- The place of a text among the first ones. -/
def ixT (T : List (List UInt8)) : Nat → List UInt8 → Option Nat
  | 0, _ => none
  | k + 1, t => if gT T k = t then some k else ixT T k t
theorem ixT_succ (T : List (List UInt8)) (k : Nat) (t : List UInt8) : ixT T (k + 1) t = if gT T k = t then some k else ixT T k t := rfl
theorem ixT_some (T : List (List UInt8)) (t : List UInt8) : ∀ k, (ixT T k t).isSome = (List.range k).any (fun j => gT T j == t)
  | 0 => rfl
  | k + 1 => by
    rw [List.range_succ, List.any_append, ← ixT_some T t k, ixT_succ]
    by_cases h : gT T k = t
    · rw [if_pos h]
      have : (gT T k == t) = true := by simpa using h
      simp only [List.any_cons, List.any_nil, Bool.or_false, this, Bool.or_true, Option.isSome_some]
    · rw [if_neg h]
      have : (gT T k == t) = false := by simpa using h
      simp only [List.any_cons, List.any_nil, Bool.or_false, this]
def ixV (T : List (List UInt8)) (k : Nat) : Value → Option Int
  | .string s => (ixT T k s.data.toList).map Int.ofNat
  | _ => none
theorem ixV_str (T : List (List UInt8)) (k : Nat) (t : List UInt8) : ixV T k (sV t) = (ixT T k t).map Int.ofNat := rfl
theorem TxR.len16 {p : Nat → Prop} {W : World} {v : Value} {T : List (List UInt8)} (h : TxR p W v T) : T.length * 16 ≤ 140737488351232 := by obtain ⟨_, _, _, _, _, _, h, _⟩ := h; exact h
theorem TxR.room {p : Nat → Prop} {W : World} {v : Value} {T : List (List UInt8)} (h : TxR p W v T) {i : Nat} (hi : i < T.length) : (gT T i).length ≤ maxLen := by obtain ⟨_, _, _, _, _, h, _⟩ := h; exact h i hi
theorem bA_empty (t : List UInt8) : (ByteArray.mk t.toArray = ByteArray.mk #[]) ↔ t = [] := by
  constructor
  · intro h
    injection h with h
    have := congrArg Array.toList h
    simpa using this
  · intro h; rw [h]
theorem bA_size (t : List UInt8) : (ByteArray.mk t.toArray).size = t.length := by show t.toArray.size = _; rw [List.size_toArray]
set_option maxHeartbeats 2000000 in
set_option maxRecDepth 100000 in
theorem wrongText_any {p : Nat → Prop} (X : World) (tv : Value) (T : List (List UInt8)) (hT : TxR p X tv T) :
    Calls Tryd.prog 91 #[tv] X fun e X' => e = .returned (zV (wrT T)) ∧ Fresh X X' := by
  have HT : Hid (TxR (fun b => b < X.heap.size) X tv T) := hT.low
  obtain ⟨ta, tc, htv⟩ := hT.shape
  have h16 := hT.len16
  subst htv
  clear hT
  by_cases hbig : 512 < T.length
  · have e : wrT T = 512 := if_pos hbig
    rw [e]
    clear HT e
    generalize T.length = tn at *
    go_enter Tryd.func91, Tryd.ntmps91
    go_wp2
    go_ret
    exact ⟨rfl, Kept.refl _ _⟩
  · have hmm : ∀ V : World, (Instr.makeMap 178 (some (.int .i64 (T.length : Int)))).run Tryd.prog V = .ok (.map (some V.heap.size)) (V.alloc (.map #[] 0)) := fun V => run_mm Tryd.underlying178 _ V
    have HW : Hid (∀ r, (∃ j, j < T.length ∧ bdT T j = true ∧ (∀ i, i < j → bdT T i = false) ∧ r = (j : Int)) ∨ ((∀ i, i < T.length → bdT T i = false) ∧ r = if T.length < 2 then (T.length : Int) else -1) → wrT T = r) := fun r hr => by
      unfold wrT
      rw [if_neg hbig]
      rcases hr with ⟨j, h1, h2, h3, rfl⟩ | ⟨h1, rfl⟩
      · rw [fdF_some h1 h2 h3]
      · rw [fdF_none h1]
    generalize wrT T = WR at *
    have HK0 : Hid (KM 9 (X.alloc (.map #[] 0)) X.heap.size 0 (ixV T 0)) := (KM.made 9 X).congr (fun v => by cases v <;> rfl)
    have HF0 : Hid (Fresh X (X.alloc (.map #[] 0))) := (Kept.refl _ X).alloc _
    generalize htt : T.length = tn at *
    go_enter Tryd.func91, Tryd.ntmps91
    go_wp2
    clear hmm
    go_loopw [17] (fun iv wr => ∃ j : Nat, j ≤ tn ∧ iv = zV j ∧ Hid (KM 9 wr X.heap.size j (ixV T j) ∧ Fresh X wr) ∧ Hid (∀ i, i < j → bdT T i = false)) (fun iv _ => tn - (RowKit.intOf iv).toNat)
    case atStart => exact ⟨0, Nat.zero_le _, rfl, ⟨HK0.out, HF0.out⟩, fun i hi => absurd hi (Nat.not_lt_zero _)⟩
    case round =>
      obtain ⟨j, hj, rfl, HQ, HB⟩ := hrel
      clear HK0 HF0
      by_cases hlt : j < tn
      · have hlt' : (j : Int) < (tn : Int) := by omega
        obtain ⟨b, off, rfl, _, _, hcell⟩ := (HT.out.fresh HQ.out.2).cells.2.2 (by omega)
        have t0 : wr.cell? ⟨b, off + j, none⟩ = some (.string (ByteArray.mk (gT T j).toArray)) := hcell j hlt
        have hrm := HT.out.room (i := j) (by omega)
        have hkey : keyOf Tryd.prog 9 (sV (gT T j)) = some (.string (ByteArray.mk (gT T j).toArray).data.toList) := WideMaps.keyOf_string_mk Tryd.underlying9 (by rw [bA_size]; exact hrm)
        have hlk := HQ.out.1.look strKeyed Tryd.underlying178 hkey
        obtain ⟨w', hst, hkm, hgr⟩ := HQ.out.1.store strKeyed Tryd.underlying178 (by unfold maxLen; omega) hkey (x := (j : Int)) (by constructor <;> omega) (ixV T (j + 1)) (by
          rw [ixV_str]
          unfold ixT
          rw [if_pos rfl]
          rfl) (fun key' kl' hne hk' => by
          cases key' with
          | string s =>
            show (ixT T (j + 1) s.data.toList).map Int.ofNat = (ixT T j s.data.toList).map Int.ofNat
            conv => lhs; unfold ixT
            rw [if_neg (fun e => hne ?_)]
            unfold sV
            rw [e]
          | _ => rfl)
        have HN : Hid (KM 9 w' X.heap.size (j + 1) (ixV T (j + 1)) ∧ Fresh X w') := ⟨hkm, HQ.out.2.trans ((Kept.refl (fun q => q = X.heap.size) _).grown hgr (fun q _ e => by injection e with e; exact e.symm)) (fun q hq e => by have e' : q = X.heap.size := e; omega)⟩
        rw [ixV_str, show ((ixT T j (gT T j)).map Int.ofNat).isSome = (List.range j).any (fun q => gT T q == gT T j) by rw [Option.isSome_map, ixT_some]] at hlk
        have hlk' : (Instr.lookup 178 (.map (some X.heap.size)) (.string (ByteArray.mk (gT T j).toArray)) true).run Tryd.prog wr = .ok (.tuple #[.int .i64 (((ixT T j (gT T j)).map Int.ofNat).getD 0), .bool ((List.range j).any (fun q => gT T q == gT T j))]) wr := hlk
        clear hlk
        generalize ((ixT T j (gT T j)).map Int.ofNat).getD 0 = lx at *
        have hbdd : bdT T j = ((List.range j).any (fun q => gT T q == gT T j) || ((j == 0) != (gT T j == [])) || decide (64 < (gT T j).length)) := rfl
        have hsz := bA_size (gT T j)
        generalize hag : (List.range j).any (fun q => gT T q == gT T j) = ag at *
        clear hag
        cases ag with
        | true =>
          have hbd : bdT T j = true := by rw [hbdd]; rfl
          clear hbdd hsz
          have HE := show Hid _ from HW.out (j : Int) (.inl ⟨j, by omega, hbd, HB.out, rfl⟩)
          clear HW HN HB hst hkm hgr hkey hcell hrm hbd
          generalize hss : ByteArray.mk (gT T j).toArray = ss at *
          clear hss
          go_wp2
          go_ret
          exact ⟨by rw [HE.out]; rfl, HQ.out.2⟩
        | false =>
          by_cases hj0 : j = 0
          · by_cases he : gT T j = []
            · have e1 : (j == 0) = true := by simpa using hj0
              have e2 : (gT T j == []) = true := by simpa using he
              have z1 : ((j : Int) == 0) = true := by simp; omega
              have z2 : decide ((j : Int) = 0) = true := by simp; omega
              have m1 : (ByteArray.mk (gT T j).toArray).toList.isEmpty = true := by rw [ByteArray.toList_eq]; show (gT T j).isEmpty = _; rw [← e2]; cases gT T j <;> rfl
              clear hj0 he
              by_cases hlo : 64 < (gT T j).length
              · have hbd : bdT T j = true := by rw [hbdd, e1, e2]; simpa using hlo
                have l1 : (64 : Int) < ((ByteArray.mk (gT T j).toArray).size : Int) := by omega
                clear hbdd e1 e2 hsz hlo
                have HE := show Hid _ from HW.out (j : Int) (.inl ⟨j, by omega, hbd, HB.out, rfl⟩)
                clear HW HN HB hst hkm hgr hkey hcell hrm hbd
                generalize hss : ByteArray.mk (gT T j).toArray = ss at *
                clear hss
                go_wp2
                go_ret
                exact ⟨by rw [HE.out]; rfl, HQ.out.2⟩
              · have hbd : bdT T j = false := by rw [hbdd, e1, e2]; simpa using hlo
                have l1 : ¬ (64 : Int) < ((ByteArray.mk (gT T j).toArray).size : Int) := by omega
                clear hbdd e1 e2 hsz hlo
                have HB2 : Hid (∀ i, i < j + 1 → bdT T i = false) := fun i hi => by
                  by_cases e : i = j
                  · rw [e]; exact hbd
                  · exact HB.out i (by omega)
                have hst' : (Instr.mapUpdate 178 (.map (some X.heap.size)) (.string (ByteArray.mk (gT T j).toArray)) (.int .i64 (j : Int))).run Tryd.prog wr = .ok () w' := hst
                clear HW HB hst hkm hgr hkey hcell hrm hbd HQ
                generalize hss : ByteArray.mk (gT T j).toArray = ss at *
                clear hss
                go_wp2
                go_roundw
                case rel => exact ⟨j + 1, hlt, by go_num, HN.out, HB2.out⟩
                case measure => simp [RowKit.intOf]; omega
            · have e1 : (j == 0) = true := by simpa using hj0
              have e2 : (gT T j == []) = false := by simpa using he
              have z1 : ((j : Int) == 0) = true := by simp; omega
              have z2 : decide ((j : Int) = 0) = true := by simp; omega
              have m1 : (ByteArray.mk (gT T j).toArray).toList.isEmpty = false := by rw [ByteArray.toList_eq]; show (gT T j).isEmpty = _; rw [← e2]; cases gT T j <;> rfl
              clear hj0 he
              have hbd : bdT T j = true := by rw [hbdd, e1, e2]; rfl
              clear hbdd e1 e2 hsz
              have HE := show Hid _ from HW.out (j : Int) (.inl ⟨j, by omega, hbd, HB.out, rfl⟩)
              clear HW HN HB hst hkm hgr hkey hcell hrm hbd
              generalize hss : ByteArray.mk (gT T j).toArray = ss at *
              clear hss
              go_wp2
              go_ret
              exact ⟨by rw [HE.out]; rfl, HQ.out.2⟩
          · by_cases he : gT T j = []
            · have e1 : (j == 0) = false := by simpa using hj0
              have e2 : (gT T j == []) = true := by simpa using he
              have z1 : ((j : Int) == 0) = false := by simp; omega
              have z2 : decide ((j : Int) = 0) = false := by simp; omega
              have m1 : (ByteArray.mk (gT T j).toArray).toList.isEmpty = true := by rw [ByteArray.toList_eq]; show (gT T j).isEmpty = _; rw [← e2]; cases gT T j <;> rfl
              clear hj0 he
              have hbd : bdT T j = true := by rw [hbdd, e1, e2]; rfl
              clear hbdd e1 e2 hsz
              have HE := show Hid _ from HW.out (j : Int) (.inl ⟨j, by omega, hbd, HB.out, rfl⟩)
              clear HW HN HB hst hkm hgr hkey hcell hrm hbd
              generalize hss : ByteArray.mk (gT T j).toArray = ss at *
              clear hss
              go_wp2
              go_ret
              exact ⟨by rw [HE.out]; rfl, HQ.out.2⟩
            · have e1 : (j == 0) = false := by simpa using hj0
              have e2 : (gT T j == []) = false := by simpa using he
              have z1 : ((j : Int) == 0) = false := by simp; omega
              have z2 : decide ((j : Int) = 0) = false := by simp; omega
              have m1 : (ByteArray.mk (gT T j).toArray).toList.isEmpty = false := by rw [ByteArray.toList_eq]; show (gT T j).isEmpty = _; rw [← e2]; cases gT T j <;> rfl
              clear hj0 he
              by_cases hlo : 64 < (gT T j).length
              · have hbd : bdT T j = true := by rw [hbdd, e1, e2]; simpa using hlo
                have l1 : (64 : Int) < ((ByteArray.mk (gT T j).toArray).size : Int) := by omega
                clear hbdd e1 e2 hsz hlo
                have HE := show Hid _ from HW.out (j : Int) (.inl ⟨j, by omega, hbd, HB.out, rfl⟩)
                clear HW HN HB hst hkm hgr hkey hcell hrm hbd
                generalize hss : ByteArray.mk (gT T j).toArray = ss at *
                clear hss
                go_wp2
                go_ret
                exact ⟨by rw [HE.out]; rfl, HQ.out.2⟩
              · have hbd : bdT T j = false := by rw [hbdd, e1, e2]; simpa using hlo
                have l1 : ¬ (64 : Int) < ((ByteArray.mk (gT T j).toArray).size : Int) := by omega
                clear hbdd e1 e2 hsz hlo
                have HB2 : Hid (∀ i, i < j + 1 → bdT T i = false) := fun i hi => by
                  by_cases e : i = j
                  · rw [e]; exact hbd
                  · exact HB.out i (by omega)
                have hst' : (Instr.mapUpdate 178 (.map (some X.heap.size)) (.string (ByteArray.mk (gT T j).toArray)) (.int .i64 (j : Int))).run Tryd.prog wr = .ok () w' := hst
                clear HW HB hst hkm hgr hkey hcell hrm hbd HQ
                generalize hss : ByteArray.mk (gT T j).toArray = ss at *
                clear hss
                go_wp2
                go_roundw
                case rel => exact ⟨j + 1, hlt, by go_num, HN.out, HB2.out⟩
                case measure => simp [RowKit.intOf]; omega
      · obtain rfl : j = tn := by omega
        have HE := show Hid _ from HW.out (if j < 2 then (j : Int) else -1) (.inr ⟨HB.out, rfl⟩)
        clear HW
        by_cases h2 : j < 2
        · rw [if_pos h2] at HE
          have h2' : (j : Int) < 2 := by omega
          go_wp2
          go_ret
          exact ⟨by rw [HE.out]; rfl, HQ.out.2⟩
        · rw [if_neg h2] at HE
          have h2' : ¬ (j : Int) < 2 := by omega
          go_wp2
          go_ret
          exact ⟨by rw [HE.out]; rfl, HQ.out.2⟩
end Go.Proofs.YtakiimjldccgcabDoor
