/-
  The document's half, Clean.
-/
import Derived.Test.YtomeoklhjdgaoaaDoorStl
import Derived.Test.YtomeoklhjdgaoaaDoorSte
namespace Go.Proofs.YtomeoklhjdgaoaaDoor
open Go.RowKit Go.Lib Go.Maps

theorem emp_false {r : List UInt8} (h : r ≠ []) : r.isEmpty = false := by cases r with | nil => exact absurd rfl h | cons _ _ => rfl
theorem slice_to (r : List UInt8) (n : Nat) (h : n ≤ r.length) (w : World) : (Instr.slice 9 (sV r) none (some (.int .i64 (n : Int))) none).run Tryd.prog w = .ok (sV (r.take n)) w := by
  rw [run_slice_string_h (ht := Tryd.underlying9) (kh := .i64) (h := (n : Int)) (h0 := by omega) (h2 := by rw [len_l]; omega), Int.toNat_natCast, ext_l, List.drop_zero]
theorem slice_from (r : List UInt8) (n : Nat) (h : n ≤ r.length) (w : World) : (Instr.slice 9 (sV r) (some (.int .i64 (n : Int))) none none).run Tryd.prog w = .ok (sV (r.drop n)) w := by
  rw [run_slice_string_l (ht := Tryd.underlying9) (kl := .i64) (l := (n : Int)) (h0 := by omega) (h1 := by rw [len_l]; omega), Int.toNat_natCast, len_l, ext_drop]
set_option maxHeartbeats 2000000 in
set_option maxRecDepth 100000 in
theorem refClean_any (l : List UInt8) (w : World) (hl : l.length ≤ 1099511627776) :
    Calls Tryd.prog 11 #[sV l] w fun e w' => e = .returned (sV (clL l)) ∧ Fresh w w' := by
  obtain ⟨C, hC⟩ : ∃ C, C = clL l := ⟨_, rfl⟩
  have HC0 : Hid ([] ++ clL l = C) := hC.symm
  rw [← hC]
  clear hC
  generalize hll : l.length = ln at *
  have HL0 : Hid (l.length ≤ ln) := by show _ ≤ _; omega
  clear hll
  go_enter Tryd.func11, Tryd.ntmps11
  go_wp2
  go_loopw [0, 3] (fun rv ov wr => ∃ (r acc : List UInt8), rv = sV r ∧ ov = sV acc ∧ Hid (acc ++ clL r = C) ∧ Hid (acc.length + 3 * r.length ≤ 3 * ln) ∧ Hid (Fresh w wr)) (fun rv _ _ => strSz rv)
  case atStart => exact ⟨l, [], rfl, rfl, HC0, by show _ ≤ _; have := HL0.out; simp; omega, Kept.refl _ _⟩
  case round =>
    obtain ⟨r, acc, rfl, rfl, HI, HLn, HF⟩ := hrel
    clear HC0 HL0
    by_cases h0 : r = []
    · subst h0
      have he : Hid (acc = C) := by have := HI.out; rw [clL_nil, List.append_nil] at this; exact this
      clear HI HLn
      go_wp2
      go_ret
      exact ⟨by rw [he.out]; rfl, HF.out⟩
    · have hE := emp_false h0
      have hrl := List.length_pos_iff.2 h0
      have hbd := HLn.out
      have HFt := show Hid _ from refFits_any r wr (by omega)
      have hszr : (⟨r.toArray⟩ : ByteArray).size = r.length := len_l r
      have hx0 : ((⟨r.toArray⟩ : ByteArray)[0]'(by rw [hszr]; exact hrl)).toNat = bN r 0 := get_l r 0 _
      have hr0' : (0 : Int) < (r.length : Int) := by omega
      have HSz : Hid (∀ W, Calls Tryd.prog 29 #[.int .u8 ((bN r 0 : Nat) : Int)] W fun e w' => e = .returned (zV (szN (bN r 0))) ∧ w' = W) := fun W => refSize_any _ W (bN_lt r 0)
      have HCh := show Hid _ from ch_ft r
      have hmsz : Hid (∀ k, 1 ≤ k → k ≤ r.length → strSz (sV (r.drop k)) < strSz (sV r)) := fun k h1 h2 => by rw [strSz_l, strSz_l, List.length_drop]; omega
      by_cases hc : chW r = 0
      · have hn := HCh.out.2 hc
        have hcl : Hid (clL r = sgn ++ clL (r.drop 1)) := clL_bad h0 hc
        have hsl : ∀ w, (Instr.slice 9 (sV r) (some (.int .i64 1)) none none).run Tryd.prog w = .ok (sV (r.drop 1)) w := fun w => slice_from r 1 hrl w
        have hcat : (⟨acc.toArray⟩ : ByteArray) ++ ⟨#[239, 191, 189]⟩ = ⟨(acc ++ sgn).toArray⟩ := cat_l acc sgn
        have hasz : (⟨acc.toArray⟩ : ByteArray).size = acc.length := len_l acc
        have hal : acc.length ≤ 3 * ln := by omega
        have HI2 : Hid ((acc ++ sgn) ++ clL (r.drop 1) = C) := by show _ = _; rw [List.append_assoc, ← hcl.out]; exact HI.out
        have HLn2 : Hid ((acc ++ sgn).length + 3 * (r.drop 1).length ≤ 3 * ln) := by show _ ≤ _; rw [List.length_append, List.length_drop]; simp; omega
        have hms := show Hid _ from hmsz.out 1 (Nat.le_refl _) hrl
        clear HCh hmsz hcl HI HLn hc hbd
        by_cases hz : ftF r = 0
        · rw [hz, show ((0 : Nat) : Int) = 0 from rfl] at HFt
          clear hn hz HSz hx0
          generalize hr1 : r.drop 1 = r1 at *
          generalize acc ++ sgn = acc1 at *
          clear hr1
          go_wp2_with fail
          refine Calls.mono HFt.out ?_
          rintro e' W1 ⟨rfl, hF1⟩
          have HF1 : Hid (Fresh w W1) := HF.out.trans hF1 (fun _ _ e => e)
          clear HFt hF1 HF
          go_wp2
          go_roundw
          case rel => exact ⟨r1, acc1, rfl, rfl, HI2, HLn2, HF1⟩
          case measure => exact hms.out
        · have hne : ((ftF r : Int) == (szN (bN r 0) : Int)) = false := beq_eq_false_iff_ne.2 (fun e => hn ⟨by omega, by omega⟩)
          have hp : 0 < ftF r := by omega
          have hf4 : ftF r ≤ 4 := (ft_spec r).1
          have hs4 := szN_le (bN r 0)
          have CS := show Hid _ from HSz.out
          clear hn hz HSz
          generalize ftF r = f at *
          generalize szN (bN r 0) = s at *
          generalize hr1 : r.drop 1 = r1 at *
          generalize acc ++ sgn = acc1 at *
          clear hr1
          go_wp2_with fail
          refine Calls.mono HFt.out ?_
          rintro e' W1 ⟨rfl, hF1⟩
          have HF1 : Hid (Fresh w W1) := HF.out.trans hF1 (fun _ _ e => e)
          have CS1 := show Hid _ from CS.out W1
          clear HFt hF1 HF CS
          go_wp2_with fail
          refine Calls.mono CS1.out ?_
          rintro e' W2 ⟨rfl, hW⟩
          have hW' := hW.symm
          subst hW'
          clear CS1 hW
          go_wp2
          go_roundw
          case rel => exact ⟨r1, acc1, rfl, rfl, HI2, HLn2, HF1⟩
          case measure => exact hms.out
      · obtain ⟨hf, hs⟩ := HCh.out.1 hc
        have hle := chW_le r
        have hcl : Hid (clL r = r.take (chW r) ++ clL (r.drop (chW r))) := clL_char hc
        have hsl1 : ∀ w, (Instr.slice 9 (sV r) none (some (.int .i64 ((chW r : Nat) : Int))) none).run Tryd.prog w = .ok (sV (r.take (chW r))) w := fun w => slice_to r _ hle.1 w
        have hsl2 : ∀ w, (Instr.slice 9 (sV r) (some (.int .i64 ((chW r : Nat) : Int))) none none).run Tryd.prog w = .ok (sV (r.drop (chW r))) w := fun w => slice_from r _ hle.1 w
        have hcat : (⟨acc.toArray⟩ : ByteArray) ++ ⟨(r.take (chW r)).toArray⟩ = ⟨(acc ++ r.take (chW r)).toArray⟩ := cat_l acc _
        have hasz : (⟨acc.toArray⟩ : ByteArray).size = acc.length := len_l acc
        have htsz : (⟨(r.take (chW r)).toArray⟩ : ByteArray).size = (r.take (chW r)).length := len_l _
        have htl : (r.take (chW r)).length ≤ 4 := by rw [List.length_take]; omega
        have hal : acc.length ≤ 3 * ln := by omega
        have HI2 : Hid ((acc ++ r.take (chW r)) ++ clL (r.drop (chW r)) = C) := by show _ = _; rw [List.append_assoc, ← hcl.out]; exact HI.out
        have HLn2 : Hid ((acc ++ r.take (chW r)).length + 3 * (r.drop (chW r)).length ≤ 3 * ln) := by show _ ≤ _; rw [List.length_append, List.length_drop, List.length_take]; omega
        have hms := show Hid _ from hmsz.out (chW r) (by omega) hle.1
        have hp : 0 < chW r := by omega
        have CS := show Hid _ from HSz.out
        rw [hf] at HFt
        rw [hs] at CS
        have hm4 := hle.2
        clear HCh hmsz hcl HI HLn hc hbd HSz hf hs hle
        generalize hr1 : r.drop (chW r) = r1 at *
        generalize hr2 : r.take (chW r) = r2 at *
        generalize acc ++ r2 = acc1 at *
        clear hr1 hr2
        generalize chW r = m at *
        go_wp2_with fail
        refine Calls.mono HFt.out ?_
        rintro e' W1 ⟨rfl, hF1⟩
        have HF1 : Hid (Fresh w W1) := HF.out.trans hF1 (fun _ _ e => e)
        have CS1 := show Hid _ from CS.out W1
        clear HFt hF1 HF CS
        go_wp2_with fail
        refine Calls.mono CS1.out ?_
        rintro e' W2 ⟨rfl, hW⟩
        have hW' := hW.symm
        subst hW'
        clear CS1 hW
        go_wp2
        go_roundw
        case rel => exact ⟨r1, acc1, rfl, rfl, HI2, HLn2, HF1⟩
        case measure => exact hms.out
end Go.Proofs.YtomeoklhjdgaoaaDoor
