/-
  The document's: is a text right, is it a token.
-/
import Derived.Test.YtdponkpgokncdaaVowG
namespace Go.Proofs.Ytdponkpgokncdaa
open Go.RowKit Go.Lib Go.Maps

set_option maxHeartbeats 1000000 in
set_option maxRecDepth 100000 in
theorem token_any {p : Nat → Prop} (w : World) (tv mv : Value) (T : List (List UInt8)) (z : Int) (hT : TxR p w tv T) (ma : Option Addr) (mn mc : Nat) (hm : mv = .slice ma mn mc) :
    Calls Try.prog 50 #[.agg #[tv, mv], zV z] w fun e w' => e = .returned (.bool (tkB T.length z)) ∧ Fresh w w' := by
  obtain ⟨ta, tc, rfl⟩ := hT.shape
  subst hm
  have HF : Hid (Fresh w (w.alloc (.cells #[.slice ta T.length tc, .slice ma mn mc] 55))) := (Kept.refl _ w).alloc _
  have hb : (w.alloc (.cells #[.slice ta T.length tc, .slice ma mn mc] 55)).cell? ⟨w.heap.size, 0, none⟩ = some (.slice ta T.length tc) := by rw [World.cell?_alloc_new]; rfl
  clear hT
  generalize T.length = tl at *
  by_cases h1 : 1 ≤ z
  · by_cases h2 : z < (tl : Int)
    · have e : tkB tl z = true := by unfold tkB; simp [h1, h2]
      have h1' : (0 : Int) < z := by omega
      rw [e]
      go_enter Try.func50, Try.ntmps50
      go_wp2
      go_ret
      exact ⟨rfl, HF.out⟩
    · have e : tkB tl z = false := by unfold tkB; simp [h2]
      have h1' : (0 : Int) < z := by omega
      rw [e]
      go_enter Try.func50, Try.ntmps50
      go_wp2
      go_ret
      exact ⟨rfl, HF.out⟩
  · have e : tkB tl z = false := by unfold tkB; simp [h1]
    have h1' : ¬ (0 : Int) < z := by omega
    rw [e]
    go_enter Try.func50, Try.ntmps50
    go_wp2
    go_ret
    exact ⟨rfl, HF.out⟩
set_option maxHeartbeats 1000000 in
set_option maxRecDepth 100000 in
theorem text_any {p : Nat → Prop} (w : World) (tv mv : Value) (T : List (List UInt8)) (i : Nat) (hi : i < T.length) (hT : TxR p w tv T) (ma : Option Addr) (mn mc : Nat) (hm : mv = .slice ma mn mc) :
    Calls Try.prog 40 #[.agg #[tv, mv], zV i] w fun e w' => e = .returned (.bool (!bdT T i)) ∧ Fresh w w' := by
  obtain ⟨ta, tc, rfl⟩ := hT.shape
  subst hm
  have hF : Fresh w (w.alloc (.cells #[.slice ta T.length tc, .slice ma mn mc] 55)) := (Kept.refl _ w).alloc _
  have hb : (w.alloc (.cells #[.slice ta T.length tc, .slice ma mn mc] 55)).cell? ⟨w.heap.size, 0, none⟩ = some (.slice ta T.length tc) := by rw [World.cell?_alloc_new]; rfl
  obtain ⟨b, off, hta, _, _, hcell⟩ := (hT.fresh hF).cells.2.2 (by omega)
  subst hta
  have HF : Hid _ := hF
  have HBt : Hid (bdT T i = ((List.range i).any (fun j => gT T j == gT T i) || ((i == 0) != (gT T i == [])) || decide (64 < (gT T i).length))) := rfl
  have h16 := hT.len16
  clear hT hF
  generalize hW : w.alloc (.cells #[.slice (some ⟨b, off, none⟩) T.length tc, .slice ma mn mc] 55) = W at *
  generalize bdT T i = bd at *
  generalize T.length = tl at *
  have HC : Hid (∀ k, k < tl → W.cell? ⟨b, off + k, none⟩ = some (.string (ByteArray.mk (gT T k).toArray))) := hcell
  have ti := HC.out i hi
  have HEq : Hid (∀ k, ((ByteArray.mk (gT T k).toArray).toList == (ByteArray.mk (gT T i).toArray).toList) = (gT T k == gT T i)) := fun k => by rw [ByteArray.toList_eq, ByteArray.toList_eq]
  have HEm : Hid ((ByteArray.mk (gT T i).toArray).toList.isEmpty = (gT T i == [])) := by show _ = _; rw [ByteArray.toList_eq]; show (gT T i).isEmpty = _; cases gT T i <;> rfl
  have HSz := show Hid _ from bA_size (gT T i)
  clear hcell
  generalize hss : ByteArray.mk (gT T i).toArray = ss at *
  clear hss
  go_enter Try.func40, Try.ntmps40
  go_wp2
  go_loopw [6] (fun kv wr => ∃ k : Nat, k ≤ i ∧ kv = zV k ∧ wr = W ∧ Hid (∀ q, q < k → (gT T q == gT T i) = false)) (fun kv _ => i - (RowKit.intOf kv).toNat)
  case atStart => exact ⟨0, Nat.zero_le _, rfl, rfl, fun q hq => absurd hq (Nat.not_lt_zero _)⟩
  case round =>
    obtain ⟨k, hk, rfl, hWW, HQ⟩ := hrel
    have hWW' := hWW.symm
    subst hWW'
    clear hWW
    by_cases hlt : k < i
    · have hlt' : (k : Int) < (i : Int) := by omega
      have hk2 : k < tl := by omega
      have tk := HC.out k hk2
      have he := HEq.out k
      by_cases hq : (gT T k == gT T i) = true
      · have hbd : bd = true := by
          rw [HBt.out, show (List.range i).any (fun j => gT T j == gT T i) = true from List.any_eq_true.2 ⟨k, List.mem_range.2 hlt, hq⟩]
          rfl
        rw [hq] at he
        clear HBt HQ HC HEq HEm HSz
        subst hbd
        generalize ByteArray.mk (gT T k).toArray = sk at *
        go_wp2
        go_ret
        exact ⟨rfl, HF.out⟩
      · have hq' : (gT T k == gT T i) = false := by simpa using hq
        have HQ2 : Hid (∀ q, q < k + 1 → (gT T q == gT T i) = false) := fun q hq2 => by
          by_cases e : q = k
          · rw [e]; exact hq'
          · exact HQ.out q (by omega)
        rw [hq'] at he
        clear HBt HQ HC HEq HEm HSz hq
        generalize ByteArray.mk (gT T k).toArray = sk at *
        go_wp2
        go_roundw
        case rel => exact ⟨k + 1, hlt, by go_num, trivial, HQ2.out⟩
        case measure => simp [RowKit.intOf]; omega
    · obtain rfl : k = i := by omega
      have hany : (List.range k).any (fun j => gT T j == gT T k) = false := by
        rw [List.any_eq_false]
        intro q hq
        rw [HQ.out q (List.mem_range.1 hq)]
        simp
      have hem := HEm.out
      have hsz := HSz.out
      have hbd := HBt.out
      rw [hany, Bool.false_or, ← hem] at hbd
      have hz0 : ((k : Int) == 0) = (k == 0) := by
        by_cases h : k = 0
        · subst h; rfl
        · have : (k == 0) = false := by simpa using h
          rw [this]
          simpa using h
      clear HBt HQ HC HEq HEm HSz hany hem
      generalize hzb : (k == 0) = zb at *
      generalize hE : ss.toList.isEmpty = eb at *
      by_cases hlo : 64 < (gT T k).length
      · have hl1 : ¬ (ss.size : Int) ≤ 64 := by omega
        rw [show decide (64 < (gT T k).length) = true by simpa using hlo] at hbd
        clear hlo hsz hzb
        cases zb <;> cases eb <;> (simp only [Bool.or_true] at hbd; subst hbd; go_wp2; go_ret; exact ⟨rfl, HF.out⟩)
      · have hl1 : (ss.size : Int) ≤ 64 := by omega
        rw [show decide (64 < (gT T k).length) = false by simpa using hlo] at hbd
        clear hlo hsz hzb
        cases zb <;> cases eb <;> (have hbd' := hbd; simp only [Bool.or_false, bne_self_eq_false, Bool.true_bne, Bool.false_bne, Bool.not_false] at hbd'; clear hbd; subst hbd'; go_wp2; go_ret; exact ⟨rfl, HF.out⟩)
end Go.Proofs.Ytdponkpgokncdaa
