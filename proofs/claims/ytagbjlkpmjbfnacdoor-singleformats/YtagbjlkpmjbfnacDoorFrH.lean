/-
  Halves and brains, and back: what the document says of any bits.
-/
import Derived.Test.YtagbjlkpmjbfnacDoorFrR
namespace Go.Proofs.YtagbjlkpmjbfnacDoor
open Go.RowKit Ieee

theorem half_word (s : Bool) (r : Nat) : half.word s r = (if s then 32768 else 0) + r := by
  unfold Format.word
  rw [half_consts.1]
  cases s <;> simp

set_option maxHeartbeats 4000000 in
set_option maxRecDepth 100000 in
theorem refHalf_any (a : Nat) (w : World) (ha : a < 4294967296) :
    Calls Tryd.prog 8 #[.int .u32 a] w fun r w' => r = .returned (.int .u16 (conv half (single.read a) : Nat)) ∧ w = w' := by
  rcases kinds a with k | k | k
  · rw [read_nan a ha k.1 k.2, show conv half (.nan (bN a) (bF a)) = 32256 from noneB_half]
    have HA := show Hid _ from raw_none a ha k
    clear k
    go_enter Tryd.func8, Tryd.ntmps8
    go_wp2_with fail
    refine (HA.out _).mono ?_
    rintro r X ⟨rfl, rfl⟩
    go_wp2
    go_ret
    exact ⟨rfl, rfl⟩
  · have hv : conv half (.infinity (bN a)) = (if bN a then 32768 else 0) + 31744 := by
      show half.word (bN a) half.infRung = _
      rw [half_consts.2.2.1, half_word]
    rw [read_inf a ha k.1 k.2, hv]
    have HA := show Hid _ from raw_inf a ha k
    clear k hv
    generalize bN a = N at *
    cases N
    · go_enter Tryd.func8, Tryd.ntmps8
      go_wp2_with fail
      refine (HA.out _).mono ?_
      rintro r X ⟨rfl, rfl⟩
      go_wp2
      go_ret
      exact ⟨rfl, rfl⟩
    · go_enter Tryd.func8, Tryd.ntmps8
      go_wp2_with fail
      refine (HA.out _).mono ?_
      rintro r X ⟨rfl, rfl⟩
      go_wp2
      go_ret
      exact ⟨rfl, rfl⟩
  · have hm := mt_lt a
    obtain ⟨e1, e2⟩ := ex_bounds a
    have hv : conv half (.number (bN a) (mt a) (ex a)) = (if bN a then 32768 else 0) + rung half (mt a) (ex a) := by
      show half.nearest (bN a) (mt a) (ex a) = _
      rw [nearest_rung, half_word]
    rw [read_fin a ha k, hv]
    have HA := show Hid _ from raw_fin a ha k
    clear k hv
    have HC := show Hid _ from fun X => refcut_any (mt a) (ex a) X hm e1 e2
    obtain ⟨R, hR⟩ : ∃ R, R = rung half (mt a) (ex a) := ⟨_, rfl⟩
    have hqb := cutQ_le (mt a) (ex a)
    have htb : -24 ≤ cutT (mt a) (ex a) ∧ cutT (mt a) (ex a) ≤ 200 := by
      unfold cutT
      have : Go.bitLen (mt a) ≤ 64 := bitLen_le64 (by omega)
      omega
    have hRv : R = if cutQ (mt a) (ex a) = 2048 then (if 5 < cutT (mt a) (ex a) + 1 then 31744 else (cutT (mt a) (ex a) + 1 + 25).toNat * 1024) else if cutQ (mt a) (ex a) < 1024 then cutQ (mt a) (ex a) else if 5 < cutT (mt a) (ex a) then 31744 else (cutT (mt a) (ex a) + 25).toNat * 1024 + (cutQ (mt a) (ex a) - 1024) := by
      by_cases h0 : mt a = 0
      · have hq0 : cutQ (mt a) (ex a) = 0 := by unfold cutQ; rw [h0, Nat.zero_mul, rne_zero_left]
        rw [hq0, if_neg (by decide), if_pos (by decide), hR, h0]
        unfold rung
        rw [if_pos rfl]
      · rw [hR]
        exact (half_rung (mt a) (ex a) h0 (cutT (mt a) (ex a)) (cutQ (mt a) (ex a)) (by unfold cutT Go.bitLen; rw [if_neg h0]) rfl).2.2
    rw [← hR]
    clear hR
    generalize bN a = N at *
    generalize cutQ (mt a) (ex a) = q at *
    generalize cutT (mt a) (ex a) = T at *
    generalize mt a = M at *
    generalize ex a = E at *
    obtain ⟨t, rfl⟩ : ∃ t : Nat, T = (t : Int) - 24 := ⟨(T + 24).toNat, by omega⟩
    have ht : t ≤ 224 := by omega
    rw [show ((t : Int) - 24 + 25).toNat = t + 1 by omega, show ((t : Int) - 24 + 1 + 25).toNat = t + 2 by omega] at hRv
    obtain ⟨S, hS⟩ : ∃ S : Nat, S = if N then 32768 else 0 := ⟨_, rfl⟩
    rw [← hS]
    have hS2 : S ≤ 32768 := by rw [hS]; split <;> omega
    have HS := show Hid _ from hS
    have HR := show Hid _ from hRv
    clear hS hRv htb
    go_enter Tryd.func8, Tryd.ntmps8
    go_wp2_with fail
    refine (HA.out _).mono ?_
    rintro r X ⟨rfl, rfl⟩
    go_upto_if 17 with fail
    go_cut [7] (fun s w' => s = .int .u16 S ∧ w' = w)
    case first =>
      cases N
      · go_wp2_with fail
        go_meet
        case rel => exact ⟨by rw [HS.out]; rfl, rfl⟩
      · go_wp2_with fail
        go_meet
        case rel => exact ⟨by rw [HS.out]; rfl, rfl⟩
    case rest =>
      obtain ⟨rfl, hwc⟩ := hcut
      have hwc' := hwc.symm
      clear hwc
      subst hwc'
      have hRv := HR.out
      by_cases g1 : q = 2048
      · rw [if_pos g1] at hRv
        subst g1
        by_cases g : 29 ≤ t
        · rw [if_pos (by omega)] at hRv
          have HRR := show Hid _ from hRv
          clear hRv HR
          go_wp2_with (go_at_call 24; refine (HC.out _).mono ?_; rintro r X ⟨rfl, rfl⟩)
          go_ret
          exact ⟨by rw [HRR.out]; go_num, rfl⟩
        · rw [if_neg (by omega)] at hRv
          have HRR := show Hid _ from hRv
          clear hRv HR
          go_wp2_with (go_at_call 24; refine (HC.out _).mono ?_; rintro r X ⟨rfl, rfl⟩)
          go_ret
          exact ⟨by rw [HRR.out]; go_num, rfl⟩
      · rw [if_neg g1] at hRv
        have g1' : ((q : Int) == 2048) = false := by simp; omega
        by_cases g2 : q < 1024
        · rw [if_pos g2] at hRv
          have HRR := show Hid _ from hRv
          clear hRv HR
          go_wp2_with (go_at_call 24; refine (HC.out _).mono ?_; rintro r X ⟨rfl, rfl⟩)
          go_ret
          exact ⟨by rw [HRR.out]; go_num, rfl⟩
        · rw [if_neg g2] at hRv
          obtain ⟨p, rfl⟩ : ∃ p, q = p + 1024 := ⟨q - 1024, by omega⟩
          rw [Nat.add_sub_cancel] at hRv
          rw [show ((p + 1024 : Nat) : Int) = (p : Int) + 1024 by omega] at g1' HC
          by_cases g : 30 ≤ t
          · rw [if_pos (by omega)] at hRv
            have HRR := show Hid _ from hRv
            clear hRv HR g1 g2
            go_wp2_with (go_at_call 24; refine (HC.out _).mono ?_; rintro r X ⟨rfl, rfl⟩)
            go_ret
            exact ⟨by rw [HRR.out]; go_num, rfl⟩
          · rw [if_neg (by omega)] at hRv
            have HRR := show Hid _ from hRv
            clear hRv HR g1 g2
            go_wp2_with (go_at_call 24; refine (HC.out _).mono ?_; rintro r X ⟨rfl, rfl⟩)
            go_ret
            exact ⟨by rw [HRR.out]; go_num, rfl⟩

end Go.Proofs.YtagbjlkpmjbfnacDoor
