/-
  Which texts are right.
-/
import Derived.Test.YtdponkpgokncdaaVonM
namespace Go.Proofs.Ytdponkpgokncdaa
open Go.RowKit Go.Lib Go.Maps

/-- Is something wrong with a text at its place? -/
def bdT (T : List (List UInt8)) (i : Nat) : Bool := (List.range i).any (fun j => gT T j == gT T i) || ((i == 0) != (gT T i == [])) || decide (64 < (gT T i).length)
/-- The first place at which something is wrong. -/
def fdF (f : Nat → Bool) (n : Nat) : Option Nat := (List.range n).find? f
theorem fdF_none {f : Nat → Bool} {n : Nat} (h : ∀ i, i < n → f i = false) : fdF f n = none := by
  unfold fdF
  rw [List.find?_eq_none]
  intro x hx
  rw [h x (List.mem_range.1 hx)]
  simp
theorem fdF_some {f : Nat → Bool} {n j : Nat} (hj : j < n) (hb : f j = true) (h : ∀ i, i < j → f i = false) : fdF f n = some j := by
  unfold fdF
  have e : List.range n = List.range j ++ (j :: (List.range (n - j - 1)).map (fun q => j + 1 + q)) := by
    apply List.ext_getElem
    · simp; omega
    · intro i h1 h2
      rcases Nat.lt_trichotomy i j with e | e | e
      · rw [List.getElem_append_left (by simpa using e)]; simp
      · subst e; rw [List.getElem_append_right (by simp)]; simp
      · rw [List.getElem_append_right (by simp; omega)]
        obtain ⟨q, rfl⟩ : ∃ q, i = j + 1 + q := ⟨i - j - 1, by omega⟩
        simp only [List.getElem_range, List.length_range]
        rw [show ∀ (hh : j + 1 + q - j < (j :: (List.range (n - j - 1)).map (fun q => j + 1 + q)).length), (j :: (List.range (n - j - 1)).map (fun q => j + 1 + q))[j + 1 + q - j]'hh = j + 1 + q from fun hh => by
          simp only [show j + 1 + q - j = q + 1 by omega, List.getElem_cons_succ, List.getElem_map, List.getElem_range]]
  rw [e, List.find?_append, List.find?_eq_none.2 (fun x hx => by rw [h x (List.mem_range.1 hx)]; simp), List.find?_cons, hb]
  rfl
/-- What Check tells of texts. -/
def wrT (T : List (List UInt8)) : Int := if 512 < T.length then 512 else match fdF (bdT T) T.length with
  | some i => (i : Int)
  | none => if T.length < 2 then (T.length : Int) else -1
/-- The place of a text among the first ones. -/
def ixT (T : List (List UInt8)) : Nat → List UInt8 → Option Nat
  | 0, _ => none
  | k + 1, t => if gT T k = t then some k else ixT T k t
theorem ixT_succ (T : List (List UInt8)) (k : Nat) (t : List UInt8) : ixT T (k + 1) t = if gT T k = t then some k else ixT T k t := rfl
theorem ixT_some (T : List (List UInt8)) (t : List UInt8) : ∀ k, (ixT T k t).isSome = (List.range k).any (fun j => gT T j == t)
  | 0 => rfl
  | k + 1 => by
    rw [List.range_succ, List.any_append, ← ixT_some T t k, ixT_succ]
    by_cases h : gT T k = t
    · rw [if_pos h]
      have : (gT T k == t) = true := by simpa using h
      simp only [List.any_cons, List.any_nil, Bool.or_false, this, Bool.or_true, Option.isSome_some]
    · rw [if_neg h]
      have : (gT T k == t) = false := by simpa using h
      simp only [List.any_cons, List.any_nil, Bool.or_false, this]
def ixV (T : List (List UInt8)) (k : Nat) : Value → Option Int
  | .string s => (ixT T k s.data.toList).map Int.ofNat
  | _ => none
theorem ixV_str (T : List (List UInt8)) (k : Nat) (t : List UInt8) : ixV T k (sV t) = (ixT T k t).map Int.ofNat := rfl
theorem TxR.len16 {p : Nat → Prop} {W : World} {v : Value} {T : List (List UInt8)} (h : TxR p W v T) : T.length * 16 ≤ 140737488351232 := by obtain ⟨_, _, _, _, _, _, h, _⟩ := h; exact h
theorem TxR.room {p : Nat → Prop} {W : World} {v : Value} {T : List (List UInt8)} (h : TxR p W v T) {i : Nat} (hi : i < T.length) : (gT T i).length ≤ maxLen := by obtain ⟨_, _, _, _, _, h, _⟩ := h; exact h i hi
theorem bA_empty (t : List UInt8) : (ByteArray.mk t.toArray = ByteArray.mk #[]) ↔ t = [] := by
  constructor
  · intro h
    injection h with h
    have := congrArg Array.toList h
    simpa using this
  · intro h; rw [h]
theorem bA_size (t : List UInt8) : (ByteArray.mk t.toArray).size = t.length := by show t.toArray.size = _; rw [List.size_toArray]
set_option maxHeartbeats 2000000 in
set_option maxRecDepth 100000 in
theorem wrongText_any {p : Nat → Prop} (X : World) (tv : Value) (T : List (List UInt8)) (hT : TxR p X tv T) :
    Calls Try.prog 47 #[tv] X fun e X' => e = .returned (zV (wrT T)) ∧ Fresh X X' := by
  have HT : Hid (TxR (fun b => b < X.heap.size) X tv T) := hT.low
  obtain ⟨ta, tc, htv⟩ := hT.shape
  have h16 := hT.len16
  subst htv
  clear hT
  by_cases hbig : 512 < T.length
  · have e : wrT T = 512 := if_pos hbig
    rw [e]
    clear HT e
    generalize T.length = tn at *
    go_enter Try.func47, Try.ntmps47
    go_wp2
    go_ret
    exact ⟨rfl, Kept.refl _ _⟩
  · have hmm : ∀ V : World, (Instr.makeMap 103 (some (.int .i64 (T.length : Int)))).run Try.prog V = .ok (.map (some V.heap.size)) (V.alloc (.map #[] 0)) := fun V => run_mm Try.underlying103 _ V
    have HW : Hid (∀ r, (∃ j, j < T.length ∧ bdT T j = true ∧ (∀ i, i < j → bdT T i = false) ∧ r = (j : Int)) ∨ ((∀ i, i < T.length → bdT T i = false) ∧ r = if T.length < 2 then (T.length : Int) else -1) → wrT T = r) := fun r hr => by
      unfold wrT
      rw [if_neg hbig]
      rcases hr with ⟨j, h1, h2, h3, rfl⟩ | ⟨h1, rfl⟩
      · rw [fdF_some h1 h2 h3]
      · rw [fdF_none h1]
    generalize wrT T = WR at *
    have HK0 : Hid (KM 9 (X.alloc (.map #[] 0)) X.heap.size 0 (ixV T 0)) := (KM.made 9 X).congr (fun v => by cases v <;> rfl)
    have HF0 : Hid (Fresh X (X.alloc (.map #[] 0))) := (Kept.refl _ X).alloc _
    generalize htt : T.length = tn at *
    go_enter Try.func47, Try.ntmps47
    go_wp2
    clear hmm
    go_loopw [17] (fun iv wr => ∃ j : Nat, j ≤ tn ∧ iv = zV j ∧ Hid (KM 9 wr X.heap.size j (ixV T j) ∧ Fresh X wr) ∧ Hid (∀ i, i < j → bdT T i = false)) (fun iv _ => tn - (RowKit.intOf iv).toNat)
    case atStart => exact ⟨0, Nat.zero_le _, rfl, ⟨HK0.out, HF0.out⟩, fun i hi => absurd hi (Nat.not_lt_zero _)⟩
    case round =>
      obtain ⟨j, hj, rfl, HQ, HB⟩ := hrel
      clear HK0 HF0
      by_cases hlt : j < tn
      · have hlt' : (j : Int) < (tn : Int) := by omega
        obtain ⟨b, off, rfl, _, _, hcell⟩ := (HT.out.fresh HQ.out.2).cells.2.2 (by omega)
        have t0 : wr.cell? ⟨b, off + j, none⟩ = some (.string (ByteArray.mk (gT T j).toArray)) := hcell j hlt
        have hrm := HT.out.room (i := j) (by omega)
        have hkey : keyOf Try.prog 9 (sV (gT T j)) = some (.string (ByteArray.mk (gT T j).toArray).data.toList) := WideMaps.keyOf_string_mk Try.underlying9 (by rw [bA_size]; exact hrm)
        have hlk := HQ.out.1.look strKeyed Try.underlying103 hkey
        obtain ⟨w', hst, hkm, hgr⟩ := HQ.out.1.store strKeyed Try.underlying103 (by unfold maxLen; omega) hkey (x := (j : Int)) (by constructor <;> omega) (ixV T (j + 1)) (by
          rw [ixV_str]
          unfold ixT
          rw [if_pos rfl]
          rfl) (fun key' kl' hne hk' => by
          cases key' with
          | string s =>
            show (ixT T (j + 1) s.data.toList).map Int.ofNat = (ixT T j s.data.toList).map Int.ofNat
            conv => lhs; unfold ixT
            rw [if_neg (fun e => hne ?_)]
            unfold sV
            rw [e]
          | _ => rfl)
        have HN : Hid (KM 9 w' X.heap.size (j + 1) (ixV T (j + 1)) ∧ Fresh X w') := ⟨hkm, HQ.out.2.trans ((Kept.refl (fun q => q = X.heap.size) _).grown hgr (fun q _ e => by injection e with e; exact e.symm)) (fun q hq e => by have e' : q = X.heap.size := e; omega)⟩
        rw [ixV_str, show ((ixT T j (gT T j)).map Int.ofNat).isSome = (List.range j).any (fun q => gT T q == gT T j) by rw [Option.isSome_map, ixT_some]] at hlk
        have hlk' : (Instr.lookup 103 (.map (some X.heap.size)) (.string (ByteArray.mk (gT T j).toArray)) true).run Try.prog wr = .ok (.tuple #[.int .i64 (((ixT T j (gT T j)).map Int.ofNat).getD 0), .bool ((List.range j).any (fun q => gT T q == gT T j))]) wr := hlk
        clear hlk
        generalize ((ixT T j (gT T j)).map Int.ofNat).getD 0 = lx at *
        have hbdd : bdT T j = ((List.range j).any (fun q => gT T q == gT T j) || ((j == 0) != (gT T j == [])) || decide (64 < (gT T j).length)) := rfl
        have hsz := bA_size (gT T j)
        generalize hag : (List.range j).any (fun q => gT T q == gT T j) = ag at *
        clear hag
        cases ag with
        | true =>
          have hbd : bdT T j = true := by rw [hbdd]; rfl
          clear hbdd hsz
          have HE := show Hid _ from HW.out (j : Int) (.inl ⟨j, by omega, hbd, HB.out, rfl⟩)
          clear HW HN HB hst hkm hgr hkey hcell hrm hbd
          generalize hss : ByteArray.mk (gT T j).toArray = ss at *
          clear hss
          go_wp2
          go_ret
          exact ⟨by rw [HE.out]; rfl, HQ.out.2⟩
        | false =>
          by_cases hj0 : j = 0
          · by_cases he : gT T j = []
            · have e1 : (j == 0) = true := by simpa using hj0
              have e2 : (gT T j == []) = true := by simpa using he
              have z1 : ((j : Int) == 0) = true := by simp; omega
              have z2 : decide ((j : Int) = 0) = true := by simp; omega
              have m1 : (ByteArray.mk (gT T j).toArray).toList.isEmpty = true := by rw [ByteArray.toList_eq]; show (gT T j).isEmpty = _; rw [← e2]; cases gT T j <;> rfl
              clear hj0 he
              by_cases hlo : 64 < (gT T j).length
              · have hbd : bdT T j = true := by rw [hbdd, e1, e2]; simpa using hlo
                have l1 : (64 : Int) < ((ByteArray.mk (gT T j).toArray).size : Int) := by omega
                clear hbdd e1 e2 hsz hlo
                have HE := show Hid _ from HW.out (j : Int) (.inl ⟨j, by omega, hbd, HB.out, rfl⟩)
                clear HW HN HB hst hkm hgr hkey hcell hrm hbd
                generalize hss : ByteArray.mk (gT T j).toArray = ss at *
                clear hss
                go_wp2
                go_ret
                exact ⟨by rw [HE.out]; rfl, HQ.out.2⟩
              · have hbd : bdT T j = false := by rw [hbdd, e1, e2]; simpa using hlo
                have l1 : ¬ (64 : Int) < ((ByteArray.mk (gT T j).toArray).size : Int) := by omega
                clear hbdd e1 e2 hsz hlo
                have HB2 : Hid (∀ i, i < j + 1 → bdT T i = false) := fun i hi => by
                  by_cases e : i = j
                  · rw [e]; exact hbd
                  · exact HB.out i (by omega)
                have hst' : (Instr.mapUpdate 103 (.map (some X.heap.size)) (.string (ByteArray.mk (gT T j).toArray)) (.int .i64 (j : Int))).run Try.prog wr = .ok () w' := hst
                clear HW HB hst hkm hgr hkey hcell hrm hbd HQ
                generalize hss : ByteArray.mk (gT T j).toArray = ss at *
                clear hss
                go_wp2
                go_roundw
                case rel => exact ⟨j + 1, hlt, by go_num, HN.out, HB2.out⟩
                case measure => simp [RowKit.intOf]; omega
            · have e1 : (j == 0) = true := by simpa using hj0
              have e2 : (gT T j == []) = false := by simpa using he
              have z1 : ((j : Int) == 0) = true := by simp; omega
              have z2 : decide ((j : Int) = 0) = true := by simp; omega
              have m1 : (ByteArray.mk (gT T j).toArray).toList.isEmpty = false := by rw [ByteArray.toList_eq]; show (gT T j).isEmpty = _; rw [← e2]; cases gT T j <;> rfl
              clear hj0 he
              have hbd : bdT T j = true := by rw [hbdd, e1, e2]; rfl
              clear hbdd e1 e2 hsz
              have HE := show Hid _ from HW.out (j : Int) (.inl ⟨j, by omega, hbd, HB.out, rfl⟩)
              clear HW HN HB hst hkm hgr hkey hcell hrm hbd
              generalize hss : ByteArray.mk (gT T j).toArray = ss at *
              clear hss
              go_wp2
              go_ret
              exact ⟨by rw [HE.out]; rfl, HQ.out.2⟩
          · by_cases he : gT T j = []
            · have e1 : (j == 0) = false := by simpa using hj0
              have e2 : (gT T j == []) = true := by simpa using he
              have z1 : ((j : Int) == 0) = false := by simp; omega
              have z2 : decide ((j : Int) = 0) = false := by simp; omega
              have m1 : (ByteArray.mk (gT T j).toArray).toList.isEmpty = true := by rw [ByteArray.toList_eq]; show (gT T j).isEmpty = _; rw [← e2]; cases gT T j <;> rfl
              clear hj0 he
              have hbd : bdT T j = true := by rw [hbdd, e1, e2]; rfl
              clear hbdd e1 e2 hsz
              have HE := show Hid _ from HW.out (j : Int) (.inl ⟨j, by omega, hbd, HB.out, rfl⟩)
              clear HW HN HB hst hkm hgr hkey hcell hrm hbd
              generalize hss : ByteArray.mk (gT T j).toArray = ss at *
              clear hss
              go_wp2
              go_ret
              exact ⟨by rw [HE.out]; rfl, HQ.out.2⟩
            · have e1 : (j == 0) = false := by simpa using hj0
              have e2 : (gT T j == []) = false := by simpa using he
              have z1 : ((j : Int) == 0) = false := by simp; omega
              have z2 : decide ((j : Int) = 0) = false := by simp; omega
              have m1 : (ByteArray.mk (gT T j).toArray).toList.isEmpty = false := by rw [ByteArray.toList_eq]; show (gT T j).isEmpty = _; rw [← e2]; cases gT T j <;> rfl
              clear hj0 he
              by_cases hlo : 64 < (gT T j).length
              · have hbd : bdT T j = true := by rw [hbdd, e1, e2]; simpa using hlo
                have l1 : (64 : Int) < ((ByteArray.mk (gT T j).toArray).size : Int) := by omega
                clear hbdd e1 e2 hsz hlo
                have HE := show Hid _ from HW.out (j : Int) (.inl ⟨j, by omega, hbd, HB.out, rfl⟩)
                clear HW HN HB hst hkm hgr hkey hcell hrm hbd
                generalize hss : ByteArray.mk (gT T j).toArray = ss at *
                clear hss
                go_wp2
                go_ret
                exact ⟨by rw [HE.out]; rfl, HQ.out.2⟩
              · have hbd : bdT T j = false := by rw [hbdd, e1, e2]; simpa using hlo
                have l1 : ¬ (64 : Int) < ((ByteArray.mk (gT T j).toArray).size : Int) := by omega
                clear hbdd e1 e2 hsz hlo
                have HB2 : Hid (∀ i, i < j + 1 → bdT T i = false) := fun i hi => by
                  by_cases e : i = j
                  · rw [e]; exact hbd
                  · exact HB.out i (by omega)
                have hst' : (Instr.mapUpdate 103 (.map (some X.heap.size)) (.string (ByteArray.mk (gT T j).toArray)) (.int .i64 (j : Int))).run Try.prog wr = .ok () w' := hst
                clear HW HB hst hkm hgr hkey hcell hrm hbd HQ
                generalize hss : ByteArray.mk (gT T j).toArray = ss at *
                clear hss
                go_wp2
                go_roundw
                case rel => exact ⟨j + 1, hlt, by go_num, HN.out, HB2.out⟩
                case measure => simp [RowKit.intOf]; omega
      · obtain rfl : j = tn := by omega
        have HE := show Hid _ from HW.out (if j < 2 then (j : Int) else -1) (.inr ⟨HB.out, rfl⟩)
        clear HW
        by_cases h2 : j < 2
        · rw [if_pos h2] at HE
          have h2' : (j : Int) < 2 := by omega
          go_wp2
          go_ret
          exact ⟨by rw [HE.out]; rfl, HQ.out.2⟩
        · rw [if_neg h2] at HE
          have h2' : ¬ (j : Int) < 2 := by omega
          go_wp2
          go_ret
          exact ⟨by rw [HE.out]; rfl, HQ.out.2⟩
end Go.Proofs.Ytdponkpgokncdaa
