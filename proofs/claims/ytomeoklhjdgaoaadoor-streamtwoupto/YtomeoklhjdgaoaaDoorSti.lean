/-
  New.
-/
import Derived.Test.YtomeoklhjdgaoaaDoorSth
import Derived.Lib.SliceRun
import Derived.Maps.OwnOps
namespace Go.Proofs.YtomeoklhjdgaoaaDoor
open Go.RowKit Go.Lib Go.Maps

/-- No stop text may be so. -/
def badB (x : List UInt8) : Bool := x.isEmpty || decide (64 < x.length) || !decide (clL x = x)
theorem badB_iff {x : List UInt8} : badB x = false ↔ x ≠ [] ∧ x.length ≤ 64 ∧ clL x = x := by
  unfold badB
  rw [Bool.or_eq_false_iff, Bool.or_eq_false_iff, Bool.not_eq_false', decide_eq_true_iff, decide_eq_false_iff_not]
  cases x with
  | nil => simp
  | cons c r => simp [Nat.not_lt]
set_option maxHeartbeats 1000000 in
set_option maxRecDepth 100000 in
theorem isNoStop_any (x : List UInt8) (w : World) (hl : x.length ≤ 1048576) (hm : TbM w) :
    Calls Tryd.prog 41 #[sV x] w fun e w' => e = .returned (.bool (badB x)) ∧ Fresh w w' := by
  have hsz : (⟨x.toArray⟩ : ByteArray).size = x.length := len_l x
  have HV := show Hid _ from Tryd.utf8_ValidString ⟨x.toArray⟩ w (by rw [hsz]; omega) hm.1
  rw [data_l, valid_iff] at HV
  cases he : x.isEmpty with
  | true =>
    have hb : Hid (badB x = true) := by show _ = _; unfold badB; rw [he]; rfl
    clear HV
    go_enter Tryd.func41, Tryd.ntmps41
    go_wp2
    go_ret
    exact ⟨by rw [hb.out]; simp, Kept.refl _ _⟩
  | false =>
    by_cases h64 : 64 < x.length
    · have hb : Hid (badB x = true) := by show _ = _; unfold badB; rw [decide_eq_true h64]; simp
      have h64' : decide ((64 : Int) < (x.length : Int)) = true := decide_eq_true (by omega)
      clear HV
      go_enter Tryd.func41, Tryd.ntmps41
      go_wp2
      go_ret
      exact ⟨by rw [hb.out]; simp, Kept.refl _ _⟩
    · have hb : Hid (badB x = !decide (clL x = x)) := by show _ = _; unfold badB; rw [he, decide_eq_false h64]; simp
      have h64' : decide ((64 : Int) < (x.length : Int)) = false := decide_eq_false (by omega)
      generalize decide (clL x = x) = q at *
      go_enter Tryd.func41, Tryd.ntmps41
      go_wp2_with fail
      refine Calls.mono HV.out ?_
      rintro e' W1 ⟨rfl, hF⟩
      have HF : Hid (Fresh w W1) := fresh_below hF
      clear HV hF
      go_wp2
      go_ret
      exact ⟨by rw [hb.out]; simp, HF.out⟩
/-- The first stop text that may not be. -/
def bad1 (T : List (List UInt8)) : Option Nat := f1st (fun i => badB (tX T i)) T.length
def chkF (T : List (List UInt8)) : Int := if 16 < T.length then 141 else if (bad1 T).isSome then 140 else 0
theorem chk_ok {T : List (List UInt8)} (h : chkF T = 0) : T.length ≤ 16 ∧ GdT T := by
  unfold chkF at h
  split at h
  · exact absurd h (by decide)
  · split at h
    · exact absurd h (by decide)
    · rename_i h1 h2
      refine ⟨by omega, fun j hj => ?_⟩
      have h3 : bad1 T = none := by simpa using h2
      exact badB_iff.1 (f1st_none.1 h3 j hj)
abbrev fnV : Value := .func (.func 41) #[] #[]
def b1V (T : List (List UInt8)) : Int := match bad1 T with
  | some i => (i : Int)
  | none => -1
set_option maxHeartbeats 1000000 in
set_option maxRecDepth 100000 in
theorem IndexFunc_any {p : Nat → Prop} (T : List (List UInt8)) (v : Value) (w : World) (hR : TxR p w v T) (hm : TbM w) :
    Calls Tryd.prog 54 #[v, fnV] w fun e w' => e = .returned (zV (b1V T)) ∧ Fresh w w' := by
  obtain ⟨ao, cap, rfl⟩ := hR.shape
  have HR : Hid (∀ W, Fresh w W → TxR p W (.slice ao T.length cap) T) := fun W hk => hR.fresh hk
  have HT : Hid (∀ W, Fresh w W → TbM W) := fun W hk => hm.fresh hk
  have HE : Hid (∀ i, i < T.length → (tX T i).length ≤ 1048576) := hR.each
  have h20 := hR.len
  have HN : Hid ((∀ j, j < T.length → badB (tX T j) = false) → b1V T = -1) := fun h => by unfold b1V bad1; rw [f1st_none.2 h]
  have HS : Hid (∀ i, i < T.length → badB (tX T i) = true → (∀ j, j < i → badB (tX T j) = false) → b1V T = i) := fun i hi h hj => by unfold b1V bad1; rw [f1st_of hi h hj]
  clear hR hm
  generalize b1V T = R at *
  generalize T.length = n at *
  go_enter Tryd.func54, Tryd.ntmps54
  go_wp2
  go_loopw [8] (fun iv wr => ∃ i : Nat, i ≤ n ∧ iv = zV i ∧ Hid (Fresh w wr) ∧ Hid (∀ j, j < i → badB (tX T j) = false)) (fun iv _ => n - (RowKit.intOf iv).toNat)
  case atStart => exact ⟨0, Nat.zero_le _, rfl, Kept.refl _ _, fun j hj => absurd hj (Nat.not_lt_zero _)⟩
  case round =>
    obtain ⟨i, hi, rfl, HF, HQ⟩ := hrel
    by_cases hlt : i < n
    · have hlt' : (i : Int) < (n : Int) := by omega
      obtain ⟨b, off, rfl, _, hbl, hcell⟩ := (HR.out wr HF.out).cells.2.2 (by omega)
      have c0 := hcell i hlt
      clear hcell
      have HC := show Hid _ from isNoStop_any (tX T i) wr (HE.out i hlt) (HT.out wr HF.out)
      have HSi : Hid (badB (tX T i) = true → R = i) := fun h => HS.out i hlt h HQ.out
      have HQi : Hid (badB (tX T i) = false → ∀ j, j < i + 1 → badB (tX T j) = false) := fun h j hj => by
        by_cases e : j = i
        · rw [e]; exact h
        · exact HQ.out j (by omega)
      clear HS HQ
      generalize badB (tX T i) = q at *
      go_wp2_with fail
      refine Calls.mono HC.out ?_
      rintro e' W1 ⟨rfl, hF1⟩
      have HF1 : Hid (Fresh w W1) := HF.out.trans hF1 (fun _ _ e => e)
      clear HC hF1 HF
      cases q with
      | true =>
        have HR' := show Hid _ from HSi.out rfl
        go_wp2
        go_ret
        exact ⟨by rw [HR'.out]; rfl, HF1.out⟩
      | false =>
        have HQ2 := show Hid _ from HQi.out rfl
        go_wp2
        go_roundw
        case rel => exact ⟨i + 1, by omega, by go_num, HF1, HQ2⟩
        case measure => simp [RowKit.intOf]; omega
    · have hlt' : ¬ (i : Int) < (n : Int) := by omega
      have hin : i = n := by omega
      subst hin
      have hRf : Hid (R = -1) := HN.out HQ.out
      clear HS HN HQ
      go_wp2
      go_ret
      exact ⟨by rw [hRf.out]; rfl, HF.out⟩
set_option maxHeartbeats 1000000 in
set_option maxRecDepth 100000 in
theorem ContainsFunc_any {p : Nat → Prop} (T : List (List UInt8)) (v : Value) (w : World) (hR : TxR p w v T) (hm : TbM w) :
    Calls Tryd.prog 40 #[v, fnV] w fun e w' => e = .returned (.bool (bad1 T).isSome) ∧ Fresh w w' := by
  have HC := show Hid _ from IndexFunc_any T v w hR hm
  have HB : Hid (decide (0 ≤ b1V T) = (bad1 T).isSome) := by
    show _ = _
    unfold b1V
    cases bad1 T with
    | none => rfl
    | some i => simp
  clear hR hm
  generalize b1V T = R at *
  generalize (bad1 T).isSome = q at *
  go_enter Tryd.func40, Tryd.ntmps40
  go_wp2_with fail
  refine Calls.mono HC.out ?_
  rintro e' W1 ⟨rfl, hF1⟩
  clear HC
  go_wp2
  go_ret
  exact ⟨by rw [← HB.out]; rfl, hF1⟩
theorem own_empty (w : World) (B : Nat) (hB : B ≤ w.heap.size) (e : TypeId) : (w.alloc (.cells #[] e)).ownsRow B e 1 (.slice (some ⟨w.heap.size, 0, none⟩) 0 0) 0 [] :=
  ⟨rfl, .inr ⟨w.heap.size, 0, #[], rfl, hB, heap_alloc_new w _, Nat.le_refl _, Nat.zero_le _, rfl, rfl⟩⟩
set_option maxHeartbeats 1000000 in
set_option maxRecDepth 100000 in
theorem CloneT_any {p : Nat → Prop} (T : List (List UInt8)) (v : Value) (w : World) (hR : TxR p w v T) :
    Calls Tryd.prog 42 #[v] w fun e w' => ∃ tv, e = .returned tv ∧ TxR (fun q => w.heap.size ≤ q ∧ q < w'.heap.size) w' tv T ∧ Fresh w w' := by
  obtain ⟨ao, cap, rfl, h0, h1, h2, h3, h4⟩ := hR
  cases ao with
  | none =>
    have hz : T.length = 0 := by have := h0 rfl; omega
    have hT : T = [] := List.length_eq_zero_iff.1 hz
    subst hT
    refine (Tryd.slices_Clone_nil 0 cap w).mono ?_
    rintro e w' ⟨rfl, rfl⟩
    exact ⟨_, rfl, ⟨none, 0, rfl, fun _ => rfl, Nat.le_refl _, fun i hi => absurd hi (Nat.not_lt_zero _), by simp, fun e => absurd e (Nat.lt_irrefl _)⟩, Kept.refl _ _⟩
  | some a =>
    have hR2 : TxR p w (.slice (some a) T.length cap) T := ⟨some a, cap, rfl, h0, h1, h2, h3, h4⟩
    have hF : Fresh w (w.alloc (.cells #[] 9)) := (Kept.refl _ w).alloc _
    obtain ⟨t1, W1, g1, g2, g3⟩ := twinT 26 (w.alloc (.cells #[] 9)) w.heap.size (.slice (some ⟨w.heap.size, 0, none⟩) 0 0) (own_empty w _ (Nat.le_refl _) _) hF.size _ T _ (hR2.fresh hF)
    have HO : Hid (TxR (fun q => w.heap.size ≤ q ∧ q < W1.heap.size) W1 t1 T ∧ Fresh w W1) := ⟨txr_of_own g2 h2 h3, hF.grown g3 (fun k hk e => by simp [Value.ownBlock] at e; omega)⟩
    have he : ∀ W : World, Sem.run Tryd.prog (binOp .eql 26 (.slice (some a) T.length cap) (.slice none 0 0)) W = .ok (.bool false) W := fun W => Lib.run_eql_slice_nil W _ _ _ _ _ 0 0 Tryd.underlying26
    clear g2 g3 hF hR2 h4
    generalize T.length = n at *
    go_enter Tryd.func42, Tryd.ntmps42
    go_wp2_with (at_builtin; refine Lib.wpList_append_run _ rfl _ _ _ _ rfl _ _ rfl rfl _ _ g1 ?_)
    go_ret
    exact ⟨_, rfl, HO.out.1, HO.out.2⟩
/-- A stream of w's call: its blocks are new. -/
def Nw0 (w : World) (F : Nat → Prop) : Prop := ∀ q, F q → w.heap.size ≤ q
set_option maxHeartbeats 2000000 in
set_option maxRecDepth 100000 in
theorem New_any {p : Nat → Prop} (T : List (List UInt8)) (v : Value) (w : World) (hR : TxR p w v T) (hm : TbM w) :
    Calls Tryd.prog 19 #[v] w fun e w' => Fresh w w' ∧ ((chkF T ≠ 0 ∧ e = .returned (.tuple #[.pointer none, zV (chkF T)])) ∨
      (chkF T = 0 ∧ ∃ b F, e = .returned (.tuple #[.pointer (some ⟨b, 0, none⟩), zV 0]) ∧ StM F w' b T [] [] false false 0 ∧ Nw0 w F ∧ ∀ q, F q → q < w'.heap.size)) := by
  have HC := show Hid _ from ContainsFunc_any T v w hR hm
  have HCl : Hid (∀ W, Fresh w W → Calls Tryd.prog 42 #[v] W fun e w' => ∃ tv, e = .returned tv ∧ TxR (fun q => W.heap.size ≤ q ∧ q < w'.heap.size) w' tv T ∧ Fresh W w') := fun W hk => CloneT_any T v W (hR.fresh hk)
  have h3 : Hid (3 ≤ w.heap.size) := hm.size
  obtain ⟨ao, cap, rfl⟩ := hR.shape
  clear hR hm
  by_cases h16 : 16 < T.length
  · have hE : Hid (chkF T = 141) := by show _ = _; unfold chkF; rw [if_pos h16]
    generalize chkF T = E at *
    have h16' : (16 : Int) < (T.length : Int) := by omega
    generalize T.length = n at *
    clear HC HCl
    go_enter Tryd.func19, Tryd.ntmps19
    go_wp2
    go_ret2
    exact ⟨Kept.refl _ _, .inl ⟨by rw [hE.out]; decide, by rw [hE.out]; rfl⟩⟩
  · have hE : Hid (chkF T = if (bad1 T).isSome then 140 else 0) := by show _ = _; unfold chkF; rw [if_neg h16]
    have h16' : ¬ (16 : Int) < (T.length : Int) := by omega
    have HT : Hid (T.length ≤ 16) := by show _ ≤ _; omega
    generalize chkF T = E at *
    generalize (bad1 T).isSome = q at *
    generalize T.length = n at *
    go_enter Tryd.func19, Tryd.ntmps19
    go_wp2_with fail
    refine Calls.mono HC.out ?_
    rintro e' W1 ⟨rfl, hF1⟩
    have HF1 : Hid (Fresh w W1) := hF1
    clear HC hF1
    cases q with
    | true =>
      have hE2 : Hid (E = 140) := hE.out
      clear hE HCl
      go_wp2
      go_ret2
      exact ⟨HF1.out, .inl ⟨by rw [hE2.out]; decide, by rw [hE2.out]; rfl⟩⟩
    | false =>
      have hE2 : Hid (E = 0) := hE.out
      have HC2 := show Hid _ from HCl.out W1 HF1.out
      clear hE HCl
      go_wp2_with fail
      refine Calls.mono HC2.out ?_
      rintro e' W2 ⟨tv, rfl, htx, hF2⟩
      obtain ⟨ao', cap', rfl⟩ := htx.shape
      have HX : Hid (TxR (fun q => W1.heap.size ≤ q ∧ q < W2.heap.size) W2 (.slice ao' T.length cap') T) := htx
      have HF2 : Hid (Fresh w W2) := HF1.out.trans hF2 (fun _ _ e => e)
      have H12 : Hid (W1.heap.size ≤ W2.heap.size) := hF2.size
      clear HC2 htx hF2
      go_wp2
      go_ret2
      have hsz : w.heap.size ≤ W1.heap.size := HF1.out.size
      have hsz2 : W1.heap.size ≤ W2.heap.size := H12.out
      have h30 : 3 ≤ w.heap.size := h3.out
      refine ⟨HF2.out.alloc _, .inr ⟨hE2.out, W2.heap.size, fun q => q = W2.heap.size ∨ (W1.heap.size ≤ q ∧ q < W2.heap.size), rfl, ⟨_, _, ⟨heap_alloc_new _ _, ?_, World.ownsRow_nil _ _ _ _, .inl rfl, fun g hg => by simp [Value.ownBlock] at hg, fun g hg => by omega⟩⟩, fun q hq => by omega, fun q hq => by rw [World.size_alloc]; omega⟩⟩
      exact (HX.out.fresh ((Kept.refl _ _).alloc _)).mono (fun q hq => ⟨.inr hq, by omega, by simp [Value.ownBlock]⟩)
end Go.Proofs.YtomeoklhjdgaoaaDoor
