/-
  The document's numbers: Bits.
-/
import Derived.Test.YtdmjfmipalifpaaGreatDoorRfa
namespace Go.Proofs.YtdmjfmipalifpaaGreatDoor
open Go.RowKit

set_option maxHeartbeats 400000 in
theorem refBits_any (v : Value) (N : Nat) (w : World) (h : Rn w v N) :
    Calls Tryz.prog 18 #[v] w fun e w' => e = .returned (.int .i64 ((bl N : Nat) : Int)) ∧ w' = w := by
  obtain ⟨L, h, hc, rfl⟩ := h
  have hdg := h.dg
  have hlen := h.len
  obtain ⟨ao, cap, rfl, _, _, hcell, _⟩ := h
  rcases List.eq_nil_or_concat L with rfl | ⟨A, d, rfl⟩
  · go_enter Tryz.func18, Tryz.ntmps18
    go_wp2
    go_ret
    exact ⟨rfl, rfl⟩
  · rw [List.concat_eq_append] at *
    obtain ⟨b, off, rfl, _, _, hce⟩ := hcell (by simp)
    have hd0 : d ≠ 0 := by intro e; subst e; simp [Can] at hc
    have hdB : d < 65536 := hdg d (by simp)
    have hcu := hce A.length (by simp)
    rw [show (A ++ [d]).getD A.length 0 = d by simp] at hcu
    have hb := bl_snoc 16 A d (fun x hx => hdg x (List.mem_append_left _ hx)) hd0
    rw [show (2 : Nat) ^ 16 = 65536 from rfl] at hb
    rw [hb]
    have hl16 : bl d ≤ 16 := bl_le (by simpa using hdB)
    rw [show (A ++ [d]).length = A.length + 1 by simp] at hlen ⊢
    have e1 : (A.length : Int) + 1 - 1 = (A.length : Int) := by omega
    have hj0 : (0 : Int) ≤ (A.length : Int) := by omega
    have hj1 : (A.length : Int) < (A.length : Int) + 1 := by omega
    obtain ⟨K, hK⟩ : ∃ K, K = bl d := ⟨_, rfl⟩
    rw [← hK] at hl16 ⊢
    have HK : Hid (K = bl d) := hK
    clear hce hcell hdg hc hb hK
    generalize A.length = n at *
    go_enter Tryz.func18, Tryz.ntmps18
    go_wp2
    go_loop [3, 4] (fun c t => ∃ (k T : Nat), c = .int .i64 ((16 * n + k : Nat) : Int) ∧ t = .int .i64 (T : Int) ∧ T < 65536 ∧ Hid (k + bl T = K)) (fun _ t => (intOf t).toNat)
    case atStart => exact ⟨0, d, by simp, rfl, hdB, by show 0 + bl d = K; rw [HK.out, Nat.zero_add]⟩
    case round =>
      obtain ⟨k, T, rfl, rfl, hT, HT⟩ := hrel
      by_cases hz : T = 0
      · subst hz
        have hk := HT.out
        rw [bl_zero, Nat.add_zero] at hk
        subst hk
        go_wp2
        go_ret
        exact ⟨rfl, rfl⟩
      · have hh := bl_half hz
        have HN : Hid (k + 1 + bl (T / 2) = K) := by have := HT.out; show k + 1 + _ = K; omega
        have hkK : k ≤ K := by have := HT.out; omega
        have c1 : (T : Int) / 2 = ((T / 2 : Nat) : Int) := by simp
        have c2 : (T : Int).tdiv 2 = ((T / 2 : Nat) : Int) := by rw [Int.tdiv_eq_ediv_of_nonneg (by omega)]; simp
        have hlt : T / 2 < T := by omega
        obtain ⟨H, hH⟩ : ∃ H, H = T / 2 := ⟨_, rfl⟩
        rw [← hH] at c1 c2 hlt HN
        have hH2 : H < 65536 := by omega
        clear hH hh HT
        go_wp2
        go_round
        case rel => exact ⟨k + 1, H, by go_num, rfl, hH2, HN⟩
        case measure => simp [intOf]; omega

end Go.Proofs.YtdmjfmipalifpaaGreatDoor
