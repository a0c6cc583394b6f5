/-
  Halves and brains, and back: the document's calls.
-/
import Derived.Test.YtagbjlkpmjbfnacDoorFoM
import Derived.Test.YtagbjlkpmjbfnacDoorKn
namespace Go.Proofs.YtagbjlkpmjbfnacDoor
open Go.RowKit Ieee

theorem rne_zero_left (d : Nat) : rne 0 d = 0 := by
  have hp := Nat.two_pow_pos d
  exact rne_small 0 d (by omega)

/-- What 'cut' keeps of a number for halves. -/
def cutT (m : Nat) (e : Int) : Int := max (e + (Go.bitLen m : Nat) - 11) (-24)
def cutQ (m : Nat) (e : Int) : Nat := rne (m * 2 ^ (e - cutT m e).toNat) (cutT m e - e).toNat
theorem cutQ_le (m : Nat) (e : Int) : cutQ m e ≤ 2048 := by
  unfold cutQ
  by_cases h0 : m = 0
  · subst h0; rw [Nat.zero_mul, rne_zero_left]; omega
  · have hl : cutT m e = max (e + (m.log2 + 1 : Nat) - 11) (-24) := by unfold cutT Go.bitLen; rw [if_neg h0]
    exact (half_rung m e h0 _ _ hl rfl).1

set_option maxHeartbeats 4000000 in
set_option maxRecDepth 100000 in
theorem refcut_any (m : Nat) (e : Int) (w : World) (hm : m < 16777216) (he : -149 ≤ e) (he2 : e ≤ 104) :
    Calls Tryd.prog 24 #[.int .i64 m, .int .i64 e, .int .i64 11, .int .i64 (-24)] w fun r w' => r = .returned (.tuple #[.int .i64 (cutQ m e : Nat), .int .i64 (cutT m e)]) ∧ w = w' := by
  have hqb := cutQ_le m e
  obtain ⟨L, hL⟩ : ∃ L, L = Go.bitLen m := ⟨_, rfl⟩
  have hL24 : L ≤ 24 := by
    rw [hL]
    by_cases h0 : m = 0
    · subst h0; unfold Go.bitLen; rw [if_pos rfl]; omega
    · unfold Go.bitLen
      rw [if_neg h0]
      have := (Nat.log2_lt (n := m) (k := 24) h0).2 hm
      omega
  have hmL : m < 2 ^ L := by rw [hL]; exact (bitLen_spec m).1
  have HL := show Hid _ from fun X => (length_any m X (by omega)).mono fun _ _ h => And.intro h.1 h.2.symm
  obtain ⟨T, hT⟩ : ∃ T, T = cutT m e := ⟨_, rfl⟩
  obtain ⟨q, hq⟩ : ∃ q, q = cutQ m e := ⟨_, rfl⟩
  rw [← hT, ← hq]
  rw [← hq] at hqb
  unfold cutT at hT
  rw [← hL] at hT HL
  have hq2 : q = rne (m * 2 ^ (e - T).toNat) (T - e).toNat := by
    rw [hq, hT, hL]; rfl
  have HQ := show Hid _ from hq2
  have HT := show Hid _ from hT
  have ht1 : -24 ≤ T := by omega
  have ht2 : T ≤ 120 := by omega
  clear hq hq2 hT hL
  go_enter Tryd.func24, Tryd.ntmps24
  go_upto_if 23 with (go_at_call 38; refine (HL.out _).mono ?_; rintro r X ⟨rfl, rfl⟩)
  go_cut [10] (fun t w' => t = .int .i64 T ∧ w' = w)
  case first =>
    rcases Int.lt_or_le (e + (L : Int) - 11) (-24) with hlt | hlt
    · go_wp2_with fail
      go_meet
      case rel => exact ⟨by rw [HT.out, Int.max_eq_right (by omega)], rfl⟩
    · go_wp2_with fail
      go_meet
      case rel => exact ⟨by rw [HT.out, Int.max_eq_left hlt], rfl⟩
  case rest =>
    obtain ⟨rfl, hwc⟩ := hcut
    have hwc' := hwc.symm
    clear hwc
    subst hwc'
    rcases Int.lt_or_le e T with hp | hp
    · obtain ⟨d, hd⟩ : ∃ d : Nat, T = e + d := ⟨(T - e).toNat, by omega⟩
      have hd1 : 1 ≤ d := by omega
      have hq : q = rne m d := by
        rw [HQ.out, show (e - T).toNat = 0 by omega, Nat.pow_zero, Nat.mul_one, show (T - e).toNat = d by omega]
      subst hd
      have aK : e + (d : Int) - e = (d : Int) := by omega
      by_cases h60 : 60 < d
      · have hq0 : q = 0 := by
          rw [hq]
          by_cases h0 : m = 0
          · subst h0; exact rne_zero_left d
          · have := (Nat.log2_lt (n := m) (k := 24) h0).2 hm
            exact rne_far (by omega)
        subst hq0
        have h60' : (60 : Int) < (d : Int) := by omega
        clear hq h60 HQ HT
        go_wp2
        go_ret2
        exact ⟨rfl, rfl⟩
      · obtain ⟨Q, hQ⟩ : ∃ Q, Q = m / 2 ^ d := ⟨_, rfl⟩
        obtain ⟨r, hr⟩ : ∃ r, r = m % 2 ^ d := ⟨_, rfl⟩
        obtain ⟨H, hH⟩ : ∃ H, H = 2 ^ (d - 1) := ⟨_, rfl⟩
        have hH2 : 2 * H = 2 ^ d := by rw [hH, show d = d - 1 + 1 by omega, Nat.pow_succ, Nat.add_sub_cancel, Nat.mul_comm]
        have hp60 : 2 ^ d ≤ 2 ^ 60 := Nat.pow_le_pow_right (by omega) (by omega)
        have hdm := Nat.div_add_mod m (2 ^ d)
        rw [← hQ, ← hr] at hdm
        have hc := rne_cases m d Q r H hQ hr hH2
        rw [← hq] at hc
        have hQl : Q ≤ m := by rw [hQ]; exact Nat.div_le_self _ _
        have a1 : (m : Int) / 2 ^ d = (Q : Int) := by rw [hQ]; simp
        obtain ⟨P, hP⟩ : ∃ P, P = Q * 2 ^ d := ⟨_, rfl⟩
        rw [Nat.mul_comm, ← hP] at hdm
        have e2 : (Q : Int) * 2 ^ d = (P : Int) := by rw [hP]; simp
        have a2 : IntKind.i64.wrap ((Q : Int) * 2 ^ d) = (P : Int) := by rw [IntKind.wrap_i64, e2]; omega
        have a3 : (m : Int) - (P : Int) = (r : Int) := by omega
        have e4 : (2 : Int) ^ (d - 1) = (H : Int) := by rw [hH]; simp
        have a4 : IntKind.i64.wrap ((2 : Int) ^ (d - 1)) = (H : Int) := by rw [IntKind.wrap_i64, e4]; omega
        have a5 : (Q : Int) % 2 = ((Q % 2 : Nat) : Int) := by omega
        have a6 : (Q : Int).tmod 2 = ((Q % 2 : Nat) : Int) := by rw [Int.tmod_eq_emod_of_nonneg (by omega)]; exact a5
        have hmin : min d 64 = d := by omega
        have hmin2 : min (d - 1) 64 = d - 1 := by omega
        have h60' : (d : Int) ≤ 60 := by omega
        clear hQ hr hH hH2 hp60 hdm hP h60 HQ HT e2 e4 hq
        rcases hc with ⟨hv, hc | ⟨rfl, hc⟩⟩ | ⟨hv, hc | ⟨rfl, hc⟩⟩
        · have c1 : (H : Int) < (r : Int) := by omega
          clear hc
          subst hv
          go_wp2
          go_ret2
          exact ⟨by simp, rfl⟩
        · have c3 : ((Q % 2 : Nat) : Int) = 1 := by omega
          clear hc
          subst hv
          go_wp2
          go_ret2
          exact ⟨by simp, rfl⟩
        · have c1 : (r : Int) < (H : Int) := by omega
          clear hc
          subst hv
          go_wp2
          go_ret2
          exact ⟨by simp, rfl⟩
        · have c3 : ((Q % 2 : Nat) : Int) = 0 := by omega
          clear hc
          subst hv
          go_wp2
          go_ret2
          exact ⟨by simp, rfl⟩
    · obtain ⟨d, hd⟩ : ∃ d : Nat, e = T + d := ⟨(e - T).toNat, by omega⟩
      have hq : q = m * 2 ^ d := by
        rw [HQ.out, show (T - e).toNat = 0 by omega, rne_zero, show (e - T).toNat = d by omega]
      subst hd
      have aK : T + (d : Int) - T = (d : Int) := by omega
      have e2 : (m : Int) * 2 ^ d = (q : Int) := by rw [hq]; simp
      have a1 : IntKind.i64.wrap ((m : Int) * 2 ^ d) = (q : Int) := by rw [IntKind.wrap_i64, e2]; omega
      have hmin : min d 64 = d := by have := HT.out; omega
      clear hq HQ HT e2
      go_wp2
      go_ret2
      exact ⟨by simp, rfl⟩

end Go.Proofs.YtagbjlkpmjbfnacDoor
