/-
  Halves as singles, brains: what the document says of any bits.
-/
import Derived.Test.YtagbjlkpmjbfnacDoorFrH
namespace Go.Proofs.YtagbjlkpmjbfnacDoor
open Go.RowKit Ieee

set_option maxHeartbeats 2000000 in
set_option maxRecDepth 100000 in
theorem refFromHalf_any (h : Nat) (w : World) (hh : h < 65536) :
    Calls Tryd.prog 10 #[.int .u16 h] w fun r w' => r = .returned (.int .u32 (conv single (half.read h) : Nat)) ∧ w = w' := by
  obtain ⟨D, hD⟩ : ∃ D, D = h / 1024 % 32 := ⟨_, rfl⟩
  obtain ⟨R, hR⟩ : ∃ R, R = h % 1024 := ⟨_, rfl⟩
  have a1 : (h : Int) / 1024 % 32 = (D : Int) := by omega
  have a2 : (h : Int) % 1024 = (R : Int) := by omega
  obtain ⟨N, hN⟩ : ∃ N, decide (32768 ≤ h) = N := ⟨_, rfl⟩
  have a3 : decide ((32768 : Int) ≤ (h : Int)) = N := by
    rw [← hN]; congr 1; apply propext; omega
  have hread : half.read h = if D = 0 then .number N R (-24) else if D < 31 then .number N (1024 + R) ((D : Int) - 25) else if R = 0 then .infinity N else .nan N R := by
    rw [half_read, half_sign h hh, hN]
    by_cases g0 : D = 0
    · rw [if_pos g0, if_pos (by omega), show h % 32768 = R by omega]
    · rw [if_neg g0, if_neg (by omega)]
      by_cases g1 : D < 31
      · rw [if_pos g1, if_pos (by omega), show h % 32768 % 1024 = R by omega, show h % 32768 / 1024 = D by omega, show (-24 : Int) + ((D - 1 : Nat) : Int) = (D : Int) - 25 by omega]
      · rw [if_neg g1, if_neg (by omega)]
        by_cases g2 : R = 0
        · rw [if_pos g2, if_pos (by omega)]
        · rw [if_neg g2, if_neg (by omega), show h % 32768 - 31744 = R by omega]
  have hD32 : D < 32 := by omega
  have hR2 : R < 1024 := by omega
  rw [hread]
  clear hread hD hR hN
  by_cases g0 : D = 0
  · rw [if_pos g0]
    subst g0
    have HN := show Hid _ from refnear_all N R (-24) (by omega)
    show Calls Tryd.prog 10 #[.int .u16 h] w fun r w' => r = .returned (.int .u32 (single.nearest N R (-24) : Nat)) ∧ w = w'
    generalize single.nearest N R (-24) = V at *
    cases N
    · go_enter Tryd.func10, Tryd.ntmps10
      go_wp2_with (go_at_call 26; refine (HN.out _).mono ?_; rintro r X ⟨rfl, rfl⟩)
      go_ret
      exact ⟨rfl, rfl⟩
    · go_enter Tryd.func10, Tryd.ntmps10
      go_wp2_with (go_at_call 26; refine (HN.out _).mono ?_; rintro r X ⟨rfl, rfl⟩)
      go_ret
      exact ⟨rfl, rfl⟩
  · rw [if_neg g0]
    have g0' : ((D : Int) == 0) = false := by simp; omega
    by_cases g1 : D < 31
    · rw [if_pos g1]
      have g1' : ((D : Int) == 31) = false := by simp; omega
      obtain ⟨M, hM⟩ : ∃ M, M = 1024 + R := ⟨_, rfl⟩
      rw [← hM]
      have aM : (1024 : Int) + (R : Int) = (M : Int) := by omega
      have HN := show Hid _ from refnear_all N M ((D : Int) - 25) (by omega)
      show Calls Tryd.prog 10 #[.int .u16 h] w fun r w' => r = .returned (.int .u32 (single.nearest N M ((D : Int) - 25) : Nat)) ∧ w = w'
      generalize single.nearest N M ((D : Int) - 25) = V at *
      have hM2 : M < 2048 := by omega
      clear hM g0 g1
      cases N
      · go_enter Tryd.func10, Tryd.ntmps10
        go_wp2_with (go_at_call 26; refine (HN.out _).mono ?_; rintro r X ⟨rfl, rfl⟩)
        go_ret
        exact ⟨rfl, rfl⟩
      · go_enter Tryd.func10, Tryd.ntmps10
        go_wp2_with (go_at_call 26; refine (HN.out _).mono ?_; rintro r X ⟨rfl, rfl⟩)
        go_ret
        exact ⟨rfl, rfl⟩
    · rw [if_neg g1]
      obtain rfl : D = 31 := by omega
      by_cases g2 : R = 0
      · rw [if_pos g2]
        subst g2
        have hv : conv single (.infinity N) = (if N then 2147483648 else 0) + 2139095040 := by
          show single.word N single.infRung = _
          rw [single_inf, single_word]
        rw [hv]
        clear hv g0 g1
        cases N
        · go_enter Tryd.func10, Tryd.ntmps10
          go_wp2
          go_ret
          exact ⟨rfl, rfl⟩
        · go_enter Tryd.func10, Tryd.ntmps10
          go_wp2
          go_ret
          exact ⟨rfl, rfl⟩
      · rw [if_neg g2, show conv single (.nan N R) = 2143289344 from noneB_single]
        have g2' : (0 : Int) < (R : Int) := by omega
        clear g0 g1 g2
        cases N
        · go_enter Tryd.func10, Tryd.ntmps10
          go_wp2
          go_ret
          exact ⟨rfl, rfl⟩
        · go_enter Tryd.func10, Tryd.ntmps10
          go_wp2
          go_ret
          exact ⟨rfl, rfl⟩

set_option maxHeartbeats 2000000 in
set_option maxRecDepth 100000 in
theorem refBrain_any (a : Nat) (w : World) (ha : a < 4294967296) :
    Calls Tryd.prog 12 #[.int .u32 a] w fun r w' => r = .returned (.int .u16 (conv brain (single.read a) : Nat)) ∧ w = w' := by
  rw [single_brain a ha]
  by_cases kn : bE a = 255 ∧ bF a ≠ 0
  · rw [if_pos kn]
    have HA := show Hid _ from raw_none a ha kn
    clear kn
    go_enter Tryd.func12, Tryd.ntmps12
    go_wp2_with fail
    refine (HA.out _).mono ?_
    rintro r X ⟨rfl, rfl⟩
    go_wp2
    go_ret
    exact ⟨rfl, rfl⟩
  · rw [if_neg kn]
    have hraw : ∃ (K : Int) (S : Bool) (M E : Int), (K = 0 ∨ K = 1) ∧ ∀ X, Calls Tryd.prog 23 #[.int .u32 a] X fun e w' => e = .returned (.tuple #[.int .i64 K, .bool S, .int .i64 M, .int .i64 E]) ∧ X = w' := by
      rcases kinds a with k | k | k
      · exact absurd k kn
      · exact ⟨1, _, _, _, .inr rfl, raw_inf a ha k⟩
      · exact ⟨0, _, _, _, .inl rfl, raw_fin a ha k⟩
    obtain ⟨K, S, M, E, hK, hraw⟩ := hraw
    have HA := show Hid _ from hraw
    obtain ⟨q, hq⟩ : ∃ q, q = a / 65536 := ⟨_, rfl⟩
    obtain ⟨r, hr⟩ : ∃ r, r = a % 65536 := ⟨_, rfl⟩
    have hlo : a % 2147483648 ≤ 2139095040 := by
      have h1 := bE_lt a
      have h2 := bF_lt a
      rw [low_eq]
      omega
    obtain ⟨V, hV⟩ : ∃ V, V = (if bN a = true then 32768 else 0) + rne (a % 2147483648) 16 := ⟨_, rfl⟩
    rw [← hV]
    have hc := rne_cases (a % 2147483648) 16 (a % 2147483648 / 65536) (a % 2147483648 % 65536) 32768 rfl rfl (by decide)
    have hbn : (bN a = true ∧ 2147483648 ≤ a) ∨ (bN a = false ∧ a < 2147483648) := by
      unfold bN
      by_cases g : 2147483648 ≤ a
      · exact .inl ⟨decide_eq_true g, g⟩
      · exact .inr ⟨decide_eq_false g, by omega⟩
    have hc2 : (V = q + 1 ∧ (32768 < r ∨ (r = 32768 ∧ q % 2 = 1))) ∨ (V = q ∧ (r < 32768 ∨ (r = 32768 ∧ q % 2 = 0))) := by
      rcases hbn with ⟨b1, b2⟩ | ⟨b1, b2⟩
      · rw [b1, if_pos rfl] at hV
        rcases hc with ⟨c1, c2⟩ | ⟨c1, c2⟩
        · left; refine ⟨by omega, by omega⟩
        · right; refine ⟨by omega, by omega⟩
      · rw [b1, if_neg (by decide)] at hV
        rcases hc with ⟨c1, c2⟩ | ⟨c1, c2⟩
        · left; refine ⟨by omega, by omega⟩
        · right; refine ⟨by omega, by omega⟩
    have hV2 : V < 65536 := by
      rcases hbn with ⟨b1, b2⟩ | ⟨b1, b2⟩
      · rcases hc2 with ⟨c1, c2⟩ | ⟨c1, c2⟩ <;> omega
      · rcases hc2 with ⟨c1, c2⟩ | ⟨c1, c2⟩ <;> omega
    have a1 : (a : Int) / 65536 = (q : Int) := by omega
    have a2 : (a : Int) % 65536 = (r : Int) := by omega
    have a5 : (q : Int) % 2 = ((q % 2 : Nat) : Int) := by omega
    have hw : IntKind.u16.wrap (V : Int) = (V : Int) := by
      have : IntKind.u16.wrap (V : Int) = (V : Int) % 65536 := by simp [IntKind.wrap, IntKind.signed, IntKind.bits]
      rw [this]; omega
    have hq2 : q < 65536 := by omega
    clear hq hr hlo hV hc hbn hraw kn
    have hKn : (K == 2) = false := by rcases hK with rfl | rfl <;> rfl
    clear hK
    rcases hc2 with ⟨hv, hc | ⟨hr, hc⟩⟩ | ⟨hv, hc | ⟨hr, hc⟩⟩
    · have c1 : (32768 : Int) < (r : Int) := by omega
      have av : (q : Int) + 1 = (V : Int) := by omega
      clear hc hv
      go_enter Tryd.func12, Tryd.ntmps12
      go_wp2_with fail
      refine (HA.out _).mono ?_
      rintro r X ⟨rfl, rfl⟩
      go_wp2
      go_ret
      exact ⟨rfl, rfl⟩
    · have c3 : ((q % 2 : Nat) : Int) = 1 := by omega
      have av : (q : Int) + 1 = (V : Int) := by omega
      clear hc hv
      subst hr
      go_enter Tryd.func12, Tryd.ntmps12
      go_wp2_with fail
      refine (HA.out _).mono ?_
      rintro r X ⟨rfl, rfl⟩
      go_wp2
      go_ret
      exact ⟨rfl, rfl⟩
    · have c1 : decide ((32768 : Int) < (r : Int)) = false := decide_eq_false (by omega)
      have c2 : ((r : Int) == 32768) = false := by simp only [beq_eq_false_iff_ne, ne_eq]; omega
      subst hv
      clear hc
      go_enter Tryd.func12, Tryd.ntmps12
      go_wp2_with fail
      refine (HA.out _).mono ?_
      rintro r X ⟨rfl, rfl⟩
      go_wp2
      go_ret
      exact ⟨rfl, rfl⟩
    · have c3 : ((V % 2 : Nat) : Int) = 0 := by omega
      subst hv
      clear hc
      subst hr
      go_enter Tryd.func12, Tryd.ntmps12
      go_wp2_with fail
      refine (HA.out _).mono ?_
      rintro r X ⟨rfl, rfl⟩
      go_wp2
      go_ret
      exact ⟨rfl, rfl⟩

set_option maxHeartbeats 2000000 in
theorem refFromBrain_any (h : Nat) (w : World) (hh : h < 65536) :
    Calls Tryd.prog 14 #[.int .u16 h] w fun r w' => r = .returned (.int .u32 (conv single (brain.read h) : Nat)) ∧ w = w' := by
  rw [brain_single h hh]
  obtain ⟨p1, p2, p3, p4, p5⟩ := brain_bits h hh
  obtain ⟨B, hB⟩ : ∃ B, B = h * 65536 := ⟨_, rfl⟩
  rw [← hB] at p1 p2 p3 ⊢
  have aB : (h : Int) * 65536 = (B : Int) := by omega
  by_cases kn : h % 32768 / 128 = 255 ∧ h % 128 ≠ 0
  · rw [if_pos kn]
    have HA := show Hid _ from raw_none B p1 ⟨by omega, by omega⟩
    clear kn p1 p2 p3 p4 p5 hB
    go_enter Tryd.func14, Tryd.ntmps14
    go_wp2_with fail
    refine (HA.out _).mono ?_
    rintro r X ⟨rfl, rfl⟩
    go_wp2
    go_ret
    exact ⟨rfl, rfl⟩
  · rw [if_neg kn]
    have hraw : ∃ (K : Int) (S : Bool) (M E : Int), (K = 0 ∨ K = 1) ∧ ∀ X, Calls Tryd.prog 23 #[.int .u32 B] X fun e w' => e = .returned (.tuple #[.int .i64 K, .bool S, .int .i64 M, .int .i64 E]) ∧ X = w' := by
      rcases kinds B with k | k | k
      · omega
      · exact ⟨1, _, _, _, .inr rfl, raw_inf B p1 k⟩
      · exact ⟨0, _, _, _, .inl rfl, raw_fin B p1 k⟩
    obtain ⟨K, S, M, E, hK, hraw⟩ := hraw
    have HA := show Hid _ from hraw
    have hKn : (K == 2) = false := by rcases hK with rfl | rfl <;> rfl
    clear hK kn p2 p3 p4 p5 hB hraw
    go_enter Tryd.func14, Tryd.ntmps14
    go_wp2_with fail
    refine (HA.out _).mono ?_
    rintro r X ⟨rfl, rfl⟩
    go_wp2
    go_ret
    exact ⟨rfl, rfl⟩

end Go.Proofs.YtagbjlkpmjbfnacDoor
