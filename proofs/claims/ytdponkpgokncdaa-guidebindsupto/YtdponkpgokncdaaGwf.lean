/-
  Which tokens may follow: as numbers; made out of a machine in memory.
-/
import Derived.Test.YtdponkpgokncdaaGwd
import Derived.Test.YtdponkpgokncdaaGut
import Derived.Test.YtdponkpgokncdaaMkL
namespace Go.Proofs.Ytdponkpgokncdaa
open Go.RowKit Go.Lib Go.Maps

/-- May token i follow state s of a machine f with the accepting states A? -/
def myF (f : Nat → Nat → Int) (A : List Bool) (T : List (List UInt8)) (s : Int) (i : Nat) : Bool :=
  if i = 0 then decide (0 ≤ s) && A.getD s.toNat false else decide (wkF f s (gT T i) ≠ -1) && (lvL f A).getD (wkF f s (gT T i)).toNat false
def mkB (n : Nat) (g : Nat → Bool) : List Bool := (List.range n).map g
theorem mkB_len (n : Nat) (g : Nat → Bool) : (mkB n g).length = n := by simp [mkB]
theorem mkB_get {n : Nat} {g : Nat → Bool} {i : Nat} (h : i < n) : (mkB n g).getD i false = g i := by
  rw [List.getD_eq_getElem?_getD]
  simp [mkB, h]
theorem mkB_succ (n : Nat) (g : Nat → Bool) : mkB (n + 1) g = mkB n g ++ [g n] := by simp [mkB, List.range_succ]
/-- Is there a true one? -/
def anyB (l : List Bool) : Bool := l.any (fun b => b)
theorem anyB_iff {l : List Bool} : anyB l = true ↔ ∃ i, i < l.length ∧ l.getD i false = true := by
  unfold anyB
  rw [List.any_eq_true]
  constructor
  · rintro ⟨b, hb, e⟩
    obtain ⟨i, hi, e2⟩ := List.getElem_of_mem hb
    exact ⟨i, hi, by rw [List.getD_eq_getElem?_getD, List.getElem?_eq_getElem hi, e2]; exact e⟩
  · rintro ⟨i, hi, e⟩
    rw [List.getD_eq_getElem?_getD, List.getElem?_eq_getElem hi] at e
    exact ⟨_, List.getElem_mem hi, e⟩
/-- The mask: where nothing may follow, the end may. -/
def msF (l : List Bool) : List Bool := if anyB l = true then l else l.set 0 true
theorem msF_len (l : List Bool) : (msF l).length = l.length := by
  unfold msF
  split <;> simp
theorem run_mkBool (n : Nat) (hn : n ≤ 1048576) (W : World) : (Instr.makeSlice 22 (.int .i64 (n : Int)) (.int .i64 (n : Int))).run Try.prog W = .ok (.slice (some ⟨W.heap.size, 0, none⟩) n n) (W.alloc (.cells ((List.replicate n false).map Value.bool).toArray 4)) := by
  have hinfo := boolInfo
  cases hi : Try.prog.info? 4 with
  | none => rw [hi] at hinfo; cases hinfo
  | some i0 =>
    rw [hi] at hinfo
    simp only [Option.map_some, Option.some.injEq, Prod.mk.injEq] at hinfo
    obtain ⟨h1, h2, h3⟩ := hinfo
    have h := run_make (P := Try.prog) W 22 4 i0 _ Try.underlying22 hi h1 .i64 .i64 (n : Int) (n : Int) (by omega) (by omega) (by rw [h3]; omega) (by omega)
    rw [h2] at h
    simp only [Int.toNat_natCast] at h
    have hz : ∀ x : Nat, (Value.bool false).cells[x % (Value.bool false).cells.size]! = Value.bool false := fun x => by
      have : x % (Value.bool false).cells.size = 0 := Nat.mod_one x
      rw [this]; rfl
    have hm : madeCells (Value.bool false).cells (n * 1) = ((List.replicate n false).map Value.bool).toArray := by
      rw [Nat.mul_one]
      unfold madeCells
      simp only [hz]
      apply Array.ext'
      simp [List.map_const']
    rw [h, hm]
/-- A row of bools that is being filled. -/
def BoI (W : World) (n : Nat) (g : Nat → Bool) (j : Nat) (wr : World) (B : Nat) : Prop :=
  wr.ownsRow W.heap.size 4 1 (.slice (some ⟨B, 0, none⟩) n n) n ((mkB j g ++ List.replicate (n - j) false).map Value.bool) ∧ Fresh W wr
theorem BoI.start {W X : World} {n : Nat} {g : Nat → Bool} (hX : Fresh W X) (hn : n ≤ 1048576) : BoI W n g 0 (X.alloc (.cells ((List.replicate n false).map Value.bool).toArray 4)) X.heap.size :=
  ⟨⟨by simp [mkB], .inr ⟨X.heap.size, n, _, rfl, hX.size, heap_alloc_new X _, Nat.le_refl _, by unfold maxLen; omega, by simp, by simp [mkB]⟩⟩, hX.alloc _⟩
theorem BoI.blk {W wr : World} {n B j : Nat} {g : Nat → Bool} (h : BoI W n g j wr B) : W.heap.size ≤ B ∧ B < wr.heap.size := by
  have := own_block h.1
  exact ⟨this.1, this.2.1⟩
theorem BoI.next {W wr X : World} {n B j : Nat} {g : Nat → Bool} (h : BoI W n g j wr B) (hk : Fresh wr X) (hj : j < n) : BoI W n g (j + 1) (X.setCell ⟨B, j, none⟩ (.bool (g j))) B := by
  have h1 := owns_kept h.1 hk (fun _ _ e => e)
  have hb := h.blk.1
  refine ⟨?_, (h.2.trans hk (fun _ _ e => e)).setCell (fun e => by have e' : B < W.heap.size := e; omega) _⟩
  have := own_setB (i := j) (x := Value.bool (g j)) h1
  rw [← List.map_set, show n - j = (n - (j + 1)) + 1 by omega, List.replicate_succ, List.set_append, if_neg (by rw [mkB_len]; omega), mkB_len, Nat.sub_self, List.set_cons_zero] at this
  rw [mkB_succ, List.append_assoc]
  exact this
theorem BoI.fresh {W wr X : World} {n B j : Nat} {g : Nat → Bool} (h : BoI W n g j wr B) (hk : Fresh wr X) : BoI W n g j X B := ⟨owns_kept h.1 hk (fun _ _ e => e), h.2.trans hk (fun _ _ e => e)⟩
theorem own_cellB {w : World} {T : TypeId} {B g n cap : Nat} {cs : List Value} (h : w.ownsRow B T 1 (.slice (some ⟨g, 0, none⟩) n cap) n cs) {i : Nat} (hi : i < n) : w.cell? ⟨g, i, none⟩ = cs[i]? := by
  have := h.cellAt i (by omega)
  simpa using this
theorem BoI.cell {W wr : World} {n B j : Nat} {g : Nat → Bool} (h : BoI W n g j wr B) {i : Nat} (hi : i < n) : (∃ x, wr.cell? ⟨B, i, none⟩ = some x) ∧ wr.frozen? ⟨B, i, none⟩ = false := by
  refine ⟨?_, own_frozen h.1 i⟩
  have hl : i < ((mkB j g ++ List.replicate (n - j) false).map Value.bool).length := by rw [h.1.1]; simpa using hi
  exact ⟨_, (own_cellB h.1 hi).trans (List.getElem?_eq_getElem hl)⟩
theorem BoI.done {W wr : World} {n B : Nat} {g : Nat → Bool} (h : BoI W n g n wr B) : wr.ownsRow W.heap.size 4 1 (.slice (some ⟨B, 0, none⟩) n n) n ((mkB n g).map Value.bool) := by
  have := h.1
  rwa [Nat.sub_self, List.replicate_zero, List.append_nil] at this
set_option maxHeartbeats 1000000 in
theorem indexB_any {q : Nat → Prop} (L : List Bool) (v : Value) (w : World) (hL : RbL q w v L) : Calls Try.prog 52 #[v, .bool true] w fun e w' => (∃ k : Int, e = .returned (zV k) ∧ (anyB L = true ↔ 0 ≤ k)) ∧ w' = w := by
  obtain ⟨ao, ac, rfl⟩ := hL.shape
  have HC : Hid (0 < L.length → ∃ b off, ao = some ⟨b, off, none⟩ ∧ ∀ i, i < L.length → w.cell? ⟨b, off + i, none⟩ = some (.bool (L.getD i false))) := fun h0 => by
    obtain ⟨b, off, h1, _, _, h2⟩ := hL.cells h0
    exact ⟨b, off, h1, h2⟩
  have HA : Hid (anyB L = true ↔ ∃ i, i < L.length ∧ L.getD i false = true) := anyB_iff
  have HN : Hid (L.length ≤ 140737488351232) := by obtain ⟨_, _, _, _, _, h, _⟩ := hL; exact h
  clear hL
  generalize anyB L = R at *
  obtain ⟨n, hn⟩ : ∃ n, n = L.length := ⟨_, rfl⟩
  rw [← hn] at HC HA HN
  rw [← hn]
  clear hn
  have hn2 := HN.out
  go_enter Try.func52, Try.ntmps52
  go_wp2
  go_loopw [8] (fun iv wr => ∃ j : Nat, j ≤ n ∧ iv = zV j ∧ wr = w ∧ Hid (∀ i, i < j → L.getD i false = false)) (fun iv _ => n - (RowKit.intOf iv).toNat)
  case atStart => exact ⟨0, Nat.zero_le _, rfl, rfl, fun i h => absurd h (Nat.not_lt_zero _)⟩
  case round =>
    obtain ⟨j, hj, rfl, rfl, HF⟩ := hrel
    by_cases hlt : j < n
    · have hlt' : (j : Int) < (n : Int) := by omega
      have h0j : (0 : Int) ≤ (j : Int) := by omega
      obtain ⟨b, off, rfl, hc⟩ := HC.out (by omega)
      have hcj := hc j hlt
      have HX : Hid (∀ y, L.getD j false = y → (y = false → ∀ i, i < j + 1 → L.getD i false = false) ∧ (y = true → (R = true ↔ (0 : Int) ≤ (j : Int)))) := fun y hy => ⟨fun e i hi => by
          rcases Nat.lt_or_ge i j with h | h
          · exact HF.out i h
          · rw [show i = j by omega, hy, e], fun e => ⟨fun _ => h0j, fun _ => HA.out.2 ⟨j, hlt, by rw [hy, e]⟩⟩⟩
      clear hc HC HA HF
      generalize L.getD j false = y at *
      obtain ⟨hX1, hX2⟩ := HX.out y rfl
      clear HX
      cases y with
      | true =>
        have HZ : Hid (R = true ↔ (0 : Int) ≤ (j : Int)) := hX2 rfl
        clear hX1 hX2
        go_wp2
        go_ret
        exact ⟨⟨_, rfl, HZ.out⟩, rfl⟩
      | false =>
        have HZ : Hid (∀ i, i < j + 1 → L.getD i false = false) := hX1 rfl
        clear hX1 hX2
        go_wp2
        go_roundw
        case rel => exact ⟨j + 1, hlt, by go_num, by simp, HZ.out⟩
        case measure => simp [RowKit.intOf]; omega
    · obtain rfl : j = n := by omega
      have hlt' : ¬ ((j : Int) < (j : Int)) := by omega
      have HZ : Hid (R = true ↔ (0 : Int) ≤ -1) := by
        refine ⟨fun e => ?_, fun e => absurd e (by decide)⟩
        obtain ⟨i, hi, h⟩ := HA.out.1 e
        rw [HF.out i hi] at h
        cases h
      clear HA HF HC
      go_wp2
      go_ret
      exact ⟨⟨_, rfl, HZ.out⟩, rfl⟩
theorem containsB_any {q : Nat → Prop} (L : List Bool) (v : Value) (w : World) (hL : RbL q w v L) : Calls Try.prog 49 #[v, .bool true] w fun e w' => e = .returned (.bool (anyB L)) ∧ w' = w := by
  have HI := show Hid _ from indexB_any L v w hL
  obtain ⟨ao, ac, rfl⟩ := hL.shape
  clear hL
  generalize anyB L = R at *
  go_enter Try.func49, Try.ntmps49
  go_wp2_with fail
  refine Calls.mono HI.out ?_
  rintro e X ⟨⟨k, rfl, hk⟩, rfl⟩
  cases R with
  | true =>
    have h0 : 0 ≤ k := hk.1 rfl
    clear hk HI
    go_wp2
    go_ret
    exact ⟨by first | simp | simp [h0], rfl⟩
  | false =>
    have h0 : ¬ 0 ≤ k := fun e => by cases (hk.2 e)
    clear hk HI
    go_wp2
    go_ret
    exact ⟨by simp; omega, rfl⟩
/-- machine.mask. -/
theorem rbl_own {B : Nat} {w : World} {g n c : Nat} {A : List Bool} (h : w.ownsRow B 4 1 (.slice (some ⟨g, 0, none⟩) n c) n (A.map Value.bool)) (hl : A.length ≤ 140737488351232) : RbL (fun b => B ≤ b ∧ b < w.heap.size) w (.slice (some ⟨g, 0, none⟩) n c) A := by
  have e : A.length = n := by have := h.1; simpa using this
  rw [← e] at h ⊢
  exact rbl_of_own h hl
set_option maxHeartbeats 1000000 in
set_option maxRecDepth 100000 in
theorem mask_mach {B : Nat} {W : World} {b : Nat} {av sv : Value} {A : List Bool} {n : Nat} {f : Nat → Nat → Int} {q : Nat → Prop} (h : MaAt B W b av sv A n f) (hn0 : 0 < n) (T : List (List UInt8)) (tv : Value) (hT : TxR q W tv T) (h64 : ∀ i, i < T.length → (gT T i).length ≤ 64) (hl : 1 ≤ T.length ∧ T.length ≤ 512) (s : Int) (hs : s = -1 ∨ (0 ≤ s ∧ s < (n : Int))) :
    Calls Try.prog 37 #[.pointer (some ⟨b, 0, none⟩), tv, zV s] W fun e w' => ∃ g, e = .returned (.slice (some ⟨g, 0, none⟩) T.length T.length) ∧ w'.ownsRow W.heap.size 4 1 (.slice (some ⟨g, 0, none⟩) T.length T.length) T.length ((msF (mkB T.length (myF f A T s))).map Value.bool) ∧ Fresh W w' := by
  have HAL := show Hid _ from alive_any h hn0
  have HM : Hid (∀ X, Fresh W X → MaAt B X b av sv A n f) := fun X hX => h.fresh hX
  have HLN : Hid (A.length = n) := h.ln
  have HWK : Hid (∀ X, Fresh W X → ∀ i, i < T.length → Calls Try.prog 34 #[.pointer (some ⟨b, 0, none⟩), zV s, sV (gT T i)] X fun e w' => e = .returned (zV (wkF f s (gT T i))) ∧ w' = X) := fun X hX i hi => by
    have := walk_mach (h.fresh hX) s hs ⟨(gT T i).toArray⟩ (by have := h64 i hi; simp only [ByteArray.size, List.size_toArray]; omega)
    simpa using this
  have HAC : Hid (∀ X, Fresh W X → Calls Try.prog 35 #[.pointer (some ⟨b, 0, none⟩), zV s] X fun e w' => e = .returned (.bool (myF f A T s 0)) ∧ w' = X) := fun X hX => accepts_any (h.fresh hX) s hs
  have HMY : Hid (∀ i, 0 < i → myF f A T s i = (decide (wkF f s (gT T i) ≠ -1) && (lvL f A).getD (wkF f s (gT T i)).toNat false)) := fun i hi => if_neg (by omega)
  have HRG : Hid (∀ i, wkF f s (gT T i) = -1 ∨ (0 ≤ wkF f s (gT T i) ∧ wkF f s (gT T i) < (n : Int))) := fun i => wkF_range h.rg _ _ hs
  have HTXA : ∃ tb off tcap, tv = .slice (some ⟨tb, off, none⟩) T.length tcap ∧ ∀ X, Fresh W X → ∀ i, i < T.length → X.cell? ⟨tb, off + i, none⟩ = some (sV (gT T i)) := by
    obtain ⟨txo, tc, e1, e2, e3, e4, e5, e6⟩ := hT
    obtain ⟨tb, off, rfl, _, hb, hc⟩ := e6 (by omega)
    exact ⟨tb, off, tc, e1, fun X hX i hi => (hX.cell (p := ⟨tb, off + i, none⟩) hb (fun e => e)).trans (hc i hi)⟩
  obtain ⟨tb, off, tcap, rfl, htx⟩ := HTXA
  have HTX : Hid _ := htx
  clear htx hT h h64
  have hmk := fun X => run_mkBool T.length (by omega) X
  generalize T.length = N at *
  obtain ⟨hl1, hl2⟩ := hl
  go_enter Try.func37, Try.ntmps37
  go_wp2_with fail
  refine Calls.mono HAL.out ?_
  rintro e W1 ⟨lg, lc, rfl, hlv, hf1⟩
  have HF1 : Hid (Fresh W W1) := hf1
  have HLV : Hid (∀ X, Fresh W1 X → ∀ i, i < n → X.cell? ⟨lg, i, none⟩ = some (.bool ((lvL f A).getD i false))) := fun X hX i hi => by
    have h2 := own_cellB (owns_kept hlv hX (fun _ _ e => e)) hi
    rw [h2, List.getElem?_map, List.getD_eq_getElem?_getD, List.getElem?_eq_getElem (by rw [lvL_len, HLN.out]; exact hi)]
    rfl
  clear hf1 hlv HAL
  have hmk1 := hmk W1
  have HB0 : Hid (BoI W1 N (myF f A T s) 0 (W1.alloc (.cells ((List.replicate N false).map Value.bool).toArray 4)) W1.heap.size) := BoI.start (Kept.refl _ W1) (by omega)
  clear hmk
  generalize W1.alloc (.cells ((List.replicate N false).map Value.bool).toArray 4) = W2 at *
  obtain ⟨mb, hmb⟩ : ∃ mb, W1.heap.size = mb := ⟨_, rfl⟩
  have HMB : Hid (W1.heap.size = mb) := hmb
  rw [hmb] at HB0 hmk1
  clear hmb
  have HAC2 := show Hid _ from HAC.out W2 (HF1.out.trans HB0.out.2 (fun _ _ e => e))
  obtain ⟨⟨x0, hx0⟩, hx1⟩ := HB0.out.cell (i := 0) (by omega)
  have HB1 : Hid (BoI W1 N (myF f A T s) 1 (W2.setCell ⟨mb, 0, none⟩ (.bool (myF f A T s 0))) mb) := HB0.out.next (Kept.refl _ W2) (by omega)
  clear HB0 HAC
  generalize hgg : myF f A T s = g at *
  have HGG : Hid (myF f A T s = g) := hgg
  clear hgg
  obtain ⟨g0, hg0⟩ : ∃ g0, g 0 = g0 := ⟨_, rfl⟩
  rw [hg0] at HAC2 HB1
  clear hg0
  go_wp2_with fail
  refine Calls.mono HAC2.out ?_
  rintro e X ⟨rfl, rfl⟩
  clear HAC2
  go_upto_region 4 with fail
  generalize X.setCell ⟨mb, 0, none⟩ (.bool g0) = W3 at *
  clear hmk1 hx0 hx1
  go_wp2
  go_loopw [9] (fun iv wr => ∃ j : Nat, 1 ≤ j ∧ j ≤ N ∧ iv = zV j ∧ Hid (BoI W1 N g j wr mb)) (fun iv _ => N - (RowKit.intOf iv).toNat)
  case atStart => exact ⟨1, Nat.le_refl _, hl1, rfl, HB1.out⟩
  case round =>
    obtain ⟨j, hj1, hj, rfl, HA⟩ := hrel
    clear HB1
    by_cases hlt : j < N
    · have hlt' : (j : Int) < (N : Int) := by omega
      have h0j : (0 : Int) ≤ (j : Int) := by omega
      have HW := show Hid _ from HWK.out wr (HF1.out.trans HA.out.2 (fun _ _ e => e)) j hlt
      have hcj := HTX.out wr (HF1.out.trans HA.out.2 (fun _ _ e => e)) j hlt
      have hm := HMY.out j (by omega)
      have hr := HRG.out j
      obtain ⟨⟨x1, hx1⟩, hx2⟩ := HA.out.cell (i := j) hlt
      have HX : Hid (∀ y, g j = y → BoI W1 N g (j + 1) (wr.setCell ⟨mb, j, none⟩ (.bool y)) mb) := fun y hy => by
        rw [← hy]
        exact HA.out.next (Kept.refl _ wr) hlt
      have HLW : Hid (∀ i, i < n → wr.cell? ⟨lg, i, none⟩ = some (.bool ((lvL f A).getD i false))) := HLV.out wr HA.out.2
      generalize wkF f s (gT T j) = t at *
      generalize gT T j = tt at *
      rcases hr with rfl | ⟨hr1, hr2⟩
      · have HZ : Hid _ := HX.out false (by rw [hm]; rfl)
        clear HX hm HLW HA
        go_wp2_with fail
        refine Calls.mono HW.out ?_
        rintro e X ⟨rfl, rfl⟩
        clear HW
        go_wp2
        go_roundw
        case rel => exact ⟨j + 1, by omega, hlt, by go_num, HZ.out⟩
        case measure => simp [RowKit.intOf]; omega
      · obtain ⟨tn, rfl⟩ := Int.eq_ofNat_of_zero_le hr1
        have htn : tn < n := by omega
        have hl := HLW.out tn htn
        have HZ : Hid _ := HX.out ((lvL f A).getD tn false) (by rw [hm, decide_eq_true (by omega)]; rfl)
        have hne : ((tn : Int) != -1) = true := bne_iff_ne.2 (by omega)
        clear HX hm HLW HA
        generalize (lvL f A).getD tn false = y at *
        go_wp2_with fail
        refine Calls.mono HW.out ?_
        rintro e X ⟨rfl, rfl⟩
        clear HW
        go_wp2
        go_roundw
        case rel => exact ⟨j + 1, by omega, hlt, by go_num, HZ.out⟩
        case measure => simp [RowKit.intOf]; omega
    · obtain rfl : j = N := by omega
      have hlt' : ¬ ((j : Int) < (j : Int)) := by omega
      have HD : Hid (wr.ownsRow W1.heap.size 4 1 (.slice (some ⟨mb, 0, none⟩) j j) j ((mkB j g).map Value.bool)) := HA.out.done
      have HCT := show Hid _ from containsB_any (mkB j g) _ wr (rbl_own HD.out (by rw [mkB_len]; omega))
      have HFR : Hid (Fresh W wr) := HF1.out.trans HA.out.2 (fun _ _ e => e)
      obtain ⟨⟨x1, hx1⟩, hx2⟩ := HA.out.cell (i := 0) (by omega)
      have HLO : Hid (W.heap.size ≤ W1.heap.size) := HF1.out.size
      have HMW : Hid (W.heap.size ≤ mb) := Nat.le_trans HLO.out (Nat.le_of_eq HMB.out)
      clear HA HWK HTX HLV HMY HRG HM
      cases hany : anyB (mkB j g) with
      | true =>
        rw [hany] at HCT
        have HO : Hid (wr.ownsRow W.heap.size 4 1 (.slice (some ⟨mb, 0, none⟩) j j) j ((msF (mkB j g)).map Value.bool)) := by
          have : msF (mkB j g) = mkB j g := if_pos hany
          show World.ownsRow _ _ _ _ _ _ _
          rw [this]
          exact own_low HD.out HLO.out
        clear HD hany
        go_wp2_with fail
        refine Calls.mono HCT.out ?_
        rintro e X ⟨rfl, rfl⟩
        go_wp2
        go_ret
        exact ⟨_, rfl, by rw [HGG.out]; exact HO.out, HFR.out⟩
      | false =>
        rw [hany] at HCT
        have HO : Hid ((wr.setCell ⟨mb, 0, none⟩ (.bool true)).ownsRow W.heap.size 4 1 (.slice (some ⟨mb, 0, none⟩) j j) j ((msF (mkB j g)).map Value.bool) ∧ Fresh W (wr.setCell ⟨mb, 0, none⟩ (.bool true))) := by
          have : msF (mkB j g) = (mkB j g).set 0 true := if_neg (by rw [hany]; decide)
          refine ⟨?_, HFR.out.setCell (fun e => by have e' : mb < W.heap.size := e; have := HMW.out; omega) _⟩
          rw [this]
          have h2 := own_setB (i := 0) (x := Value.bool true) HD.out
          rw [← List.map_set] at h2
          exact own_low h2 HLO.out
        clear HD hany
        go_wp2_with fail
        refine Calls.mono HCT.out ?_
        rintro e X ⟨rfl, rfl⟩
        go_wp2
        go_ret
        exact ⟨_, rfl, by rw [HGG.out]; exact HO.out.1, HO.out.2⟩
end Go.Proofs.Ytdponkpgokncdaa
