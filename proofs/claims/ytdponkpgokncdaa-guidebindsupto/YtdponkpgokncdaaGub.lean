/-
  A text is walked through a machine.
-/
import Derived.Test.YtdponkpgokncdaaGua
namespace Go.Proofs.Ytdponkpgokncdaa
open Go.RowKit Go.Lib Go.Maps

theorem wkF_take {f : Nat → Nat → Int} {n : Int} (hf : ∀ s c, f s c = -1 ∨ (0 ≤ f s c ∧ f s c < n)) {l : List UInt8} {s : Int} (hs : s = -1 ∨ (0 ≤ s ∧ s < n)) (k : Nat) : wkF f s (l.take k) = -1 ∨ (0 ≤ wkF f s (l.take k) ∧ wkF f s (l.take k) < n) := wkF_range hf _ _ hs
theorem wkF_stop {f : Nat → Nat → Int} {l : List UInt8} {s : Int} {k : Nat} (h : wkF f s (l.take k) = -1) : wkF f s l = -1 := by
  have := wkF_append f (l.take k) (l.drop k) s
  rw [List.take_append_drop, h, wkF_dead] at this
  exact this
theorem wkF_next {f : Nat → Nat → Int} {t : ByteArray} {s : Int} {k : Nat} (hk : k < t.size) (h : wkF f s (t.data.toList.take k) ≠ -1) : wkF f s (t.data.toList.take (k + 1)) = f (wkF f s (t.data.toList.take k)).toNat (t[k]).toNat := by
  rw [take_snoc t k hk, wkF_snoc, if_neg h]
set_option maxHeartbeats 1000000 in
set_option maxRecDepth 100000 in
theorem walk_mach {B : Nat} {W : World} {b : Nat} {av sv : Value} {A : List Bool} {n : Nat} {f : Nat → Nat → Int} (h : MaAt B W b av sv A n f) (s : Int) (hs : s = -1 ∨ (0 ≤ s ∧ s < (n : Int))) (t : ByteArray) (ht : t.size ≤ 9223372036854775000) :
    Calls Try.prog 34 #[.pointer (some ⟨b, 0, none⟩), zV s, .string t] W fun e w' => e = .returned (zV (wkF f s t.data.toList)) ∧ w' = W := by
  have HS : Hid (∀ (x : Int) (c : UInt8), (x = -1 ∨ (0 ≤ x ∧ x < (n : Int))) → Calls Try.prog 46 #[.pointer (some ⟨b, 0, none⟩), zV x, .int .u8 (c.toNat : Int)] W fun e w' => e = .returned (zV (if x = -1 then -1 else f x.toNat c.toNat)) ∧ w' = W) := fun x c hx => step_mach h x c hx
  have HT : Hid (∀ k, wkF f s (t.data.toList.take k) = -1 ∨ (0 ≤ wkF f s (t.data.toList.take k) ∧ wkF f s (t.data.toList.take k) < (n : Int))) := fun k => wkF_take h.rg hs k
  have HE : Hid (∀ k, wkF f s (t.data.toList.take k) = -1 → wkF f s t.data.toList = -1) := fun k e => wkF_stop e
  have HF : Hid (wkF f s (t.data.toList.take t.size) = wkF f s t.data.toList) := by
    show _ = _
    rw [List.take_of_length_le (by rw [← Lib.size_eq]; exact Nat.le_refl _)]
  have HN : Hid (∀ k (hk : k < t.size), wkF f s (t.data.toList.take k) ≠ -1 → wkF f s (t.data.toList.take (k + 1)) = f (wkF f s (t.data.toList.take k)).toNat (t[k]).toNat) := fun k hk e => wkF_next hk e
  have H0 : Hid (wkF f s (t.data.toList.take 0) = s) := rfl
  have HSM : Hid (n ≤ 64) := h.sm
  clear h hs
  generalize hG : (fun k => wkF f s (t.data.toList.take k)) = G
  have hG' : ∀ k, wkF f s (t.data.toList.take k) = G k := fun k => by rw [← hG]
  simp only [hG'] at HT HE HF HN H0
  generalize wkF f s t.data.toList = Z at *
  clear hG hG'
  go_enter Try.func34, Try.ntmps34
  go_wp2
  go_loopw [1, 7] (fun sv iv wr => ∃ k : Nat, k ≤ t.size ∧ iv = zV k ∧ sv = zV (G k) ∧ wr = W) (fun _ iv _ => t.size - (RowKit.intOf iv).toNat)
  case atStart => exact ⟨0, Nat.zero_le _, rfl, by show zV s = zV (G 0); rw [H0.out], rfl⟩
  case round =>
    obtain ⟨k, hk, rfl, rfl, rfl⟩ := hrel
    by_cases hlt : k < t.size
    · have hlt' : (k : Int) < (t.size : Int) := by omega
      by_cases hm : G k = -1
      · have HZ : Hid (Z = -1) := HE.out k hm
        rw [hm]
        clear hm HS HT HE HN HF H0
        go_wp2
        go_ret
        exact ⟨by rw [HZ.out]; rfl, rfl⟩
      · have hx := (HT.out k).resolve_left hm
        have HN1 : Hid (f (G k).toNat (t[k]).toNat = G (k + 1)) := (HN.out k hlt hm).symm
        have HM : Hid (G k ≠ -1) := hm
        have HC := show Hid _ from HS.out (G k) t[k] (.inr hx)
        rw [if_neg hm, HN1.out] at HC
        generalize G k = x at *
        generalize hy : G (k + 1) = y at *
        have d1 : (x == -1) = false := beq_eq_false_iff_ne.2 HM.out
        clear hm hx HS HT HE HN HF H0
        go_wp2_with fail
        refine Calls.mono HC.out ?_
        rintro e w1 ⟨rfl, rfl⟩
        go_wp2
        go_roundw
        case rel => exact ⟨k + 1, hlt, by go_num, by rw [hy], trivial⟩
        case measure => simp [RowKit.intOf]; omega
    · obtain rfl : k = t.size := by omega
      have HZ : Hid (G t.size = Z) := HF.out
      have hlt' : ¬ ((t.size : Int) < (t.size : Int)) := by omega
      rw [HZ.out]
      clear HS HT HE HN HF H0
      go_wp2
      go_ret
      exact ⟨rfl, rfl⟩
end Go.Proofs.Ytdponkpgokncdaa
