/-
  The document's numbers: Text.
-/
import Derived.Test.YtdmjfmipalifpaaGreatDoorRfa
import Derived.Test.YtdmjfmipalifpaaGreatDoorTxN
import Derived.Lib.UnsafeStr
namespace Go.Proofs.YtdmjfmipalifpaaGreatDoor
open Go.RowKit

def szOf : Value → Nat | .string s => s.size | _ => 0
theorem nd_bl (N : Nat) : Lib.nDigits N ≤ bl N + 1 := by
  induction N using Nat.strongRecOn with
  | ind N ih =>
    rcases Nat.lt_or_ge N 10 with h | h
    · rw [Lib.nDigits_small h]; omega
    · rw [Lib.nDigits_big (by omega), bl_half (by omega)]
      have h1 := ih (N / 10) (by omega)
      have h2 := bl_mono (show N / 10 ≤ N / 2 by omega)
      omega
theorem dE_len {N n : Nat} {l : List UInt8} (h : dE N = dE n ++ l) : l.length ≤ bl N + 1 := by
  have h1 := congrArg List.length h
  rw [List.length_append] at h1
  rcases Classical.em (N = 0) with c | c
  · subst c
    rw [dE_zero] at h1
    simp at h1
    omega
  · rw [dE_pos c, Lib.decDigits_length] at h1
    have := nd_bl N
    omega

set_option maxHeartbeats 1000000 in
set_option maxRecDepth 100000 in
theorem refText_any (v : Value) (N : Nat) (w : World) (h : Rn w v N) (hb : bl N ≤ 1099511627776) :
    Calls Tryz.prog 16 #[v] w fun e w' => e = .returned (.string (⟨(Lib.decDigits N).toArray⟩ : ByteArray)) ∧ Fresh w w' := by
  obtain ⟨a0, n0, c0, rfl⟩ := h.shape
  rcases Nat.eq_zero_or_pos N with hN | hN
  · subst hN
    obtain ⟨L, h1, h2, h3⟩ := h
    obtain rfl := (val_eq_zero (by omega) h2).1 h3
    obtain ⟨a, c, e⟩ := h1.shape
    cases e
    rw [Lib.decDigits_one (by omega)]
    clear h1 h2 h3
    go_enter Tryz.func16, Tryz.ntmps16
    go_wp2
    go_ret
    exact ⟨rfl, Kept.refl _ _⟩
  · have hn0 : n0 ≠ 0 := by
      obtain ⟨L, h1, h2, h3⟩ := h
      obtain ⟨a, c, e⟩ := h1.shape
      cases e
      intro e
      have : L = [] := List.eq_nil_of_length_eq_zero e
      subst this
      simp [val] at h3
      omega
    obtain ⟨R, hR⟩ : ∃ R, R = (⟨(Lib.decDigits N).toArray⟩ : ByteArray) := ⟨_, rfl⟩
    rw [← hR]
    have HRR : Hid (R = (⟨(dE N).toArray⟩ : ByteArray)) := by rw [dE_pos (by omega)]; exact hR
    have HX := show Hid _ from h
    have hb0 : ((n0 : Int) == 0) = false := by simp; exact hn0
    clear h hR
    go_enter Tryz.func16, Tryz.ntmps16
    go_wp2
    go_loopw [0, 3] (fun xv ov wr => ∃ (n : Nat) (l : List UInt8), Hid (Rn wr xv n) ∧ ov = .string (⟨l.toArray⟩ : ByteArray) ∧ Hid (dE N = dE n ++ l) ∧ n ≤ N ∧ Fresh w wr) (fun _ ov _ => bl N + 2 - szOf ov)
    case atStart => exact ⟨N, [], HX, rfl, by simp [Hid], Nat.le_refl _, Kept.refl _ _⟩
    case round =>
      obtain ⟨n, l, HR, rfl, HE, hnle, hF⟩ := hrel
      obtain ⟨L, h1, h2, h3⟩ := HR.out
      obtain ⟨xa, xc, rfl⟩ := h1.shape
      by_cases hz : L = []
      · subst hz
        have hn : n = 0 := by rw [← h3]; rfl
        subst hn
        have he := HE.out
        rw [dE_zero, List.nil_append] at he
        have HRR' : Hid (R = (⟨l.toArray⟩ : ByteArray)) := by rw [← he]; exact HRR
        have HF := show Hid _ from hF
        clear he HE HR h1 h2 h3 hF
        go_wp2
        go_ret
        exact ⟨by rw [HRR'.out]; rfl, HF.out⟩
      · have hLp : 0 < L.length := List.length_pos_iff.2 hz
        have hlen := rn_len h1.dg h2
        have hnN : n ≤ N ∧ 0 < n := by
          have := val_pos (B := 65536) (by omega) h2 hz
          omega
        have hbn := bl_mono hnN.1
        rw [h3] at hlen
        have hsm := refSmall_any _ L 10000 wr h1 (by omega) (by omega) (by omega)
        rw [h3] at hsm
        have HE0 := show Hid _ from HE.out
        clear h1 h2 h3 HR
        go_wp2_with fail
        refine hsm.mono ?_
        rintro e w2 ⟨q, rfl, hq, hF2⟩
        obtain ⟨L', g1, g2, g3⟩ := hq
        obtain ⟨qa, qc, rfl⟩ := g1.shape
        have hQ0 : L'.length = 0 ↔ n / 10000 = 0 := by
          rw [← g3, val_eq_zero (by omega) g2]
          exact ⟨List.eq_nil_of_length_eq_zero, fun e => by rw [e]; rfl⟩
        have HQ : Hid (Rn w2 (.slice qa L'.length qc) (n / 10000)) := ⟨L', g1, g2, g3⟩
        have hF2' : Fresh w w2 := hF.trans hF2 (fun _ _ e => e)
        have HED : Hid (dE N = dE (n / 10000 * 10 ^ 4 + n % 10000) ++ l) := by
          rw [show n / 10000 * 10 ^ 4 + n % 10000 = n by omega]; exact HE
        obtain ⟨n', hn'⟩ : ∃ n', n' = n / 10000 := ⟨_, rfl⟩
        obtain ⟨r0, hr0⟩ : ∃ r0, r0 = n % 10000 := ⟨_, rfl⟩
        rw [← hn', ← hr0] at HED
        rw [← hn'] at HQ hQ0
        have hnr : n' ≠ 0 ∨ r0 ≠ 0 := by omega
        have hn'N : n' ≤ N := by omega
        have hr4 : r0 < 10 ^ 4 := by omega
        rw [← hr0]
        have hLm := g1.len
        generalize L'.length = qn at *
        clear g1 g2 g3 hsm HE HE0 hF hF2 hn' hr0
        go_wp2_with fail
        go_loopw [3, 5, 6] (fun ov rv iv wq => ∃ (i r : Nat) (m : List UInt8), i ≤ 4 ∧ ov = .string (⟨m.toArray⟩ : ByteArray) ∧ rv = .int .i64 (r : Int) ∧ iv = .int .i64 (i : Int) ∧ Hid (r < 10 ^ (4 - i)) ∧ Hid (dE N = dE (n' * 10 ^ (4 - i) + r) ++ m) ∧ (i = 0 → r = r0) ∧ (0 < i → l.length < m.length) ∧ (i = 0 → m.length = l.length) ∧ r < 10000 ∧ Fresh w2 wq) (fun _ _ iv _ => 4 - (intOf iv).toNat)
        case atStart => exact ⟨0, r0, l, by omega, rfl, rfl, rfl, hr4, HED, fun _ => rfl, fun h => by omega, fun _ => rfl, by omega, Kept.refl _ _⟩
        case round =>
          clear HED
          obtain ⟨i, r, m, hi4, rfl, rfl, rfl, HR4, HE, hi0, him, him0, hr1, hF3⟩ := hrel
          by_cases hgo : i < 4 ∧ (0 < qn ∨ 0 < r)
          · obtain ⟨hi, hor⟩ := hgo
            have hml := dE_len HE.out
            obtain ⟨k, hk⟩ : ∃ k, 4 - i = k + 1 := ⟨3 - i, by omega⟩
            have hE := HE.out
            rw [hk] at hE
            have hM0 : n' * 10 ^ (k + 1) + r ≠ 0 := by
              rcases hor with h | h
              · have h1 : 0 < n' := by
                  rcases Nat.eq_zero_or_pos n' with e | e
                  · have := hQ0.2 e; omega
                  · exact e
                have := Nat.mul_pos h1 (Nat.pow_pos (n := k + 1) (show 0 < 10 by omega))
                omega
              · omega
            have hp10 : n' * 10 ^ (k + 1) = n' * 10 ^ k * 10 := by rw [Nat.pow_succ, Nat.mul_assoc]
            rw [dE_step hM0, hp10] at hE
            rw [show (n' * 10 ^ k * 10 + r) / 10 = n' * 10 ^ k + r / 10 by omega, show (n' * 10 ^ k * 10 + r) % 10 = r % 10 by omega, List.append_assoc] at hE
            have hr4' := HR4.out
            rw [hk, Nat.pow_succ] at hr4'
            have HR4' : Hid (r / 10 < 10 ^ (4 - (i + 1))) := by rw [show 4 - (i + 1) = k by omega]; show r / 10 < 10 ^ k; omega
            have HE' : Hid (dE N = dE (n' * 10 ^ (4 - (i + 1)) + r / 10) ++ (UInt8.ofNat (48 + r % 10) :: m)) := by rw [show 4 - (i + 1) = k by omega]; exact hE
            obtain ⟨D, hD⟩ : ∃ D, D = r % 10 := ⟨_, rfl⟩
            obtain ⟨E, hEq⟩ : ∃ E, E = r / 10 := ⟨_, rfl⟩
            have hDl : D < 10 := by omega
            have c1 : (r : Int) % 10 = (D : Int) := by rw [hD]; simp
            have c2 : (r : Int).tmod 10 = (D : Int) := by rw [hD, Int.tmod_eq_emod_of_nonneg (by omega)]; simp
            have c3 : (r : Int) / 10 = (E : Int) := by rw [hEq]; simp
            have c4 : (r : Int).tdiv 10 = (E : Int) := by rw [hEq, Int.tdiv_eq_ediv_of_nonneg (by omega)]; simp
            rw [← hD, ← hEq] at HE'
            rw [← hEq] at HR4'
            have hbt : ((UInt8.ofNat (48 + D)).toNat : Int) = 48 + (D : Int) := by rw [UInt8.toNat_ofNat']; omega
            have hcv : (convert 73 9 (.slice (some ⟨wr.heap.size, 0, none⟩) 1 1)).run Tryz.prog (wr.alloc (.cells #[.int .u8 (48 + (D : Int))] 5)) = .ok (.string ⟨[UInt8.ofNat (48 + D)].toArray⟩) (wr.alloc (.cells #[.int .u8 (48 + (D : Int))] 5)) := by
              rw [← hbt]
              exact run_convert_bytes_back _ _ _ 5 ⟨wr.heap.size, 0, none⟩ 1 [UInt8.ofNat (48 + D)] Tryz.underlying73 Tryz.underlying5 Tryz.underlying9 (Lib.bytes_of_row (heap_alloc_new wr _) rfl)
            obtain ⟨B1, hB1⟩ : ∃ B1, B1 = (⟨[UInt8.ofNat (48 + D)].toArray⟩ : ByteArray) := ⟨_, rfl⟩
            obtain ⟨S1, hS1⟩ : ∃ S1, S1 = (⟨m.toArray⟩ : ByteArray) := ⟨_, rfl⟩
            obtain ⟨S2, hS2⟩ : ∃ S2, S2 = (⟨(UInt8.ofNat (48 + D) :: m).toArray⟩ : ByteArray) := ⟨_, rfl⟩
            have hcat : B1 ++ S1 = S2 := by
              rw [hB1, hS1, hS2]
              apply ByteArray.ext
              simp
            have hsz : B1.size + S1.size ≤ 281474976710656 := by
              rw [hB1, hS1]
              show ([UInt8.ofNat (48 + D)].toArray).size + m.toArray.size ≤ _
              simp
              omega
            rw [← hB1] at hcv
            rw [← hS1]
            have HS2 : Hid (S2 = (⟨(UInt8.ofNat (48 + D) :: m).toArray⟩ : ByteArray)) := hS2
            have hF4 : Fresh w2 (wr.alloc (.cells #[.int .u8 (48 + (D : Int))] 5)) := hF3.alloc _
            have HF4 := show Hid _ from hF4
            have hE1 : E < 10000 := by omega
            have hlm : l.length < (UInt8.ofNat (48 + D) :: m).length := by
              rw [List.length_cons]
              rcases Nat.eq_zero_or_pos i with e | e
              · have := him0 e; omega
              · have := him e; omega
            clear hD hEq hE hS2 hB1 hS1 HE HR4 hr4' hF3 hF4 hM0 hp10 hbt him him0 hi0
            have hti : (i : Int) < 4 := by omega
            by_cases hqn : 0 < qn
            · go_wp2
              go_roundw
              case rel => exact ⟨i + 1, E, UInt8.ofNat (48 + D) :: m, by omega, by rw [HS2.out], rfl, by go_num, HR4', HE', fun e => by omega, fun _ => hlm, fun e => by omega, hE1, HF4.out⟩
              case measure => simp [intOf]; omega
            · have hr0' : 0 < r := by omega
              obtain rfl : qn = 0 := by omega
              go_wp2
              go_roundw
              case rel => exact ⟨i + 1, E, UInt8.ofNat (48 + D) :: m, by omega, by rw [HS2.out], rfl, by go_num, HR4', HE', fun e => by omega, fun _ => hlm, fun e => by omega, hE1, HF4.out⟩
              case measure => simp [intOf]; omega
          · have HQ3 : Hid (Rn wr (.slice qa qn qc) n') := Rn.fresh HQ.out hF3
            have hF5 : Fresh w wr := hF2'.trans hF3 (fun _ _ e => e)
            have HE3 : Hid (dE N = dE n' ++ m) := by
              have hE := HE.out
              rcases Nat.lt_or_ge i 4 with h | h
              · have hq : qn = 0 := by omega
                have hr : r = 0 := by omega
                have hn := hQ0.1 hq
                rw [hn, hr, Nat.zero_mul] at hE
                rw [hn]
                exact hE
              · have hi : i = 4 := by omega
                have hr := HR4.out
                subst hi
                rw [Nat.sub_self, Nat.pow_zero] at hr hE
                have hr' : r = 0 := by omega
                rw [hr', Nat.mul_one, Nat.add_zero] at hE
                exact hE
            have hprog : l.length < m.length := by
              rcases Nat.eq_zero_or_pos i with e | e
              · exfalso
                have h1 := hi0 e
                have hq : qn = 0 := by omega
                have := hQ0.1 hq
                omega
              · exact him e
            have hmm := dE_len HE3.out
            have hszm : (⟨m.toArray⟩ : ByteArray).size = m.length := by show m.toArray.size = _; simp
            have hszl : (⟨l.toArray⟩ : ByteArray).size = l.length := by show l.toArray.size = _; simp
            have HM : Hid (bl N + 2 - szOf (.string (⟨m.toArray⟩ : ByteArray)) < bl N + 2 - szOf (.string (⟨l.toArray⟩ : ByteArray))) := by
              show _ < _
              simp only [szOf, hszm, hszl]
              omega
            have HF5 := show Hid _ from hF5
            clear HE HR4 hF3 hF5 HQ hszm hszl hQ0 hnr him him0 hi0
            by_cases hi : i < 4
            · obtain rfl : qn = 0 := by omega
              obtain rfl : r = 0 := by omega
              go_wp2
              go_roundw
              case rel => exact ⟨n', m, HQ3, rfl, HE3, hn'N, HF5.out⟩
              case measure => exact HM.out
            · obtain rfl : i = 4 := by omega
              rw [show ((4 : Nat) : Int) = 4 from rfl]
              go_wp2
              go_roundw
              case rel => exact ⟨n', m, HQ3, rfl, HE3, hn'N, HF5.out⟩
              case measure => exact HM.out
end Go.Proofs.YtdmjfmipalifpaaGreatDoor
