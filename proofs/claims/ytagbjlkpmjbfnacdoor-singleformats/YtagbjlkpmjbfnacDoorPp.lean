/-
  The program's parts of a number of a format.
-/
import Derived.Test.YtagbjlkpmjbfnacDoorPtN
import Derived.Test.YtagbjlkpmjbfnacDoorShT
import Derived.Test.YtagbjlkpmjbfnacDoorNz
import Derived.Deep.DeepCutAuto
namespace Go.Proofs.YtagbjlkpmjbfnacDoor
open Go.RowKit Ieee

theorem Tab.kept {S : Nat → Prop} {w w' : World} (h : Tab w) (hk : Kept S w w') (hn : ¬ S 3) : Tab w' := fun j hj => by
  have h1 := h j hj
  exact (hk.cell (p := ⟨3, j, none⟩) (World.block_lt_of_cell? w _ h1) hn).trans h1
theorem Tab.fresh {w w' : World} (h : Tab w) (hk : Fresh w w') : Tab w' := h.kept hk (fun e => e)

theorem cells4 {W : World} {og : Nat} {a b c d : Value} {t : TypeId} (h : W.heap[og]? = some (.cells #[a, b, c, d] t (0, 0))) :
    (W.cell? ⟨og, 0, none⟩ = some a ∧ W.cell? ⟨og, 1, none⟩ = some b ∧ W.cell? ⟨og, 2, none⟩ = some c ∧ W.cell? ⟨og, 3, none⟩ = some d) ∧ W.frozen? ⟨og, 0, none⟩ = false ∧ W.frozen? ⟨og, 1, none⟩ = false ∧ W.frozen? ⟨og, 2, none⟩ = false ∧ W.frozen? ⟨og, 3, none⟩ = false := by
  simp [World.cell?, World.frozen?, h]
theorem fresh_set {w w1 : World} (h : Fresh w w1) {p : Addr} (hp : w.heap.size ≤ p.block) (v : Value) : Fresh w (w1.setCell p v) := h.setCell (fun e => by omega) v
theorem fresh_set4 {w w1 : World} (h : Fresh w w1) {g : Nat} (hg : w.heap.size ≤ g) (a b c d : Value) : Fresh w ((((w1.setCell ⟨g, 0, none⟩ a).setCell ⟨g, 1, none⟩ b).setCell ⟨g, 2, none⟩ c).setCell ⟨g, 3, none⟩ d) :=
  fresh_set (fresh_set (fresh_set (fresh_set h (p := ⟨g, 0, none⟩) hg a) (p := ⟨g, 1, none⟩) hg b) (p := ⟨g, 2, none⟩) hg c) (p := ⟨g, 3, none⟩) hg d
theorem and_bit (b k : Nat) (hb : b < 4294967296) (hk : k < 32) : bits .and .u32 (b : Int) ((2 ^ k : Nat) : Int) = if b / 2 ^ k % 2 == 1 then ((2 ^ k : Nat) : Int) else 0 := by
  have hp : 2 ^ k < 2 ^ 32 := Nat.pow_lt_pow_right (by omega) hk
  rw [bits_and_u32_nat b _ hb (by omega)]
  have ht := Nat.testBit_eq_decide_div_mod_eq (x := b) (i := k)
  by_cases h : b / 2 ^ k % 2 = 1
  · rw [decide_eq_true h] at ht
    have e : b &&& 2 ^ k = 2 ^ k := Nat.eq_of_testBit_eq fun i => by
      rw [Nat.testBit_and, Nat.testBit_two_pow]
      by_cases hi : k = i
      · subst hi; simp [ht]
      · simp [hi]
    rw [e]
    simp [h]
  · rw [decide_eq_false h] at ht
    have e : b &&& 2 ^ k = 0 := Nat.eq_of_testBit_eq fun i => by
      rw [Nat.testBit_and, Nat.testBit_two_pow]
      by_cases hi : k = i
      · subst hi; simp [ht]
      · simp [hi]
    rw [e]
    simp [h]
theorem and_low (b k : Nat) (hb : b < 4294967296) (hk : k < 32) : bits .and .u32 (b : Int) ((2 ^ k - 1 : Nat) : Int) = ((b % 2 ^ k : Nat) : Int) := by
  have hp : 2 ^ k < 2 ^ 32 := Nat.pow_lt_pow_right (by omega) hk
  rw [bits_and_u32_nat b _ hb (by omega), Nat.and_two_pow_sub_one_eq_mod]

set_option maxHeartbeats 4000000 in
theorem parts_single (b : Nat) (w : World) (hT : Tab w) (hb : b < 4294967296) :
    Calls Tryd.prog 25 #[fmtV 8 23, .int .u32 b] w fun e w' => e = .returned (ptOf (single.read b)).val ∧ Fresh w w' := by
  have a1 := and_bit b 31 (by omega) (by decide)
  have a2 := and_low b 31 (by omega) (by decide)
  have hN : (b / 2147483648 % 2 == 1) = (b / 2 ^ 31 % 2 == 1) := rfl
  obtain ⟨N, hNe⟩ : ∃ N, (b / 2 ^ 31 % 2 == 1) = N := ⟨_, rfl⟩
  obtain ⟨low, hlow⟩ : ∃ low, b % 2 ^ 31 = low := ⟨_, rfl⟩
  have hlow2 : low < 2147483648 := by rw [← hlow]; exact Nat.mod_lt _ (by decide)
  have hread : single.read b = if low < 8388608 then .number N low (-149) else if low < 2139095040 then .number N (8388608 + low % 8388608) ((-149) + ((low / 8388608 - 1 : Nat) : Int)) else if low = 2139095040 then .infinity N else .nan N (low - 2139095040) := by
    unfold Format.read
    have c1 : single.signWeight = 2 ^ 31 := by decide
    have c2 : single.binade = 8388608 := by decide
    have c3 : single.infRung = 2139095040 := by decide
    have c4 : single.leastPlace = -149 := by decide
    simp only [c1, c2, c3, c4, hNe, hlow]
  rw [hread]
  obtain ⟨P, hP⟩ : ∃ P, ptOf (if low < 8388608 then .number N low (-149) else if low < 2139095040 then .number N (8388608 + low % 8388608) ((-149) + ((low / 8388608 - 1 : Nat) : Int)) else if low = 2139095040 then .infinity N else .nan N (low - 2139095040)) = P := ⟨_, rfl⟩
  rw [hP]
  have HP := show Hid _ from hP
  clear hP
  rw [hNe] at a1
  rw [hlow] at a2
  obtain ⟨G, b1, b4⟩ : ∃ G : Int, bits .and .u32 (b : Int) 2147483648 = G ∧ (G != 0) = N := ⟨_, rfl, by
    have a1' : bits .and .u32 (b : Int) 2147483648 = if N then 2147483648 else 0 := a1
    rw [a1']; cases N <;> rfl⟩
  have b2 : bits .and .u32 (b : Int) 2147483647 = (low : Int) := a2
  have b3 : IntKind.u32.wrap 2147483647 = 2147483647 := by decide
  clear a1 a2 hN hNe hlow hread
  have hB := BoxAt.new w 8 23 42
  obtain ⟨W, hW⟩ : ∃ W, W = (w.alloc (.cells #[.int .i64 8, .int .i64 23] 42)).alloc (.cells #[.int .i64 0, .bool false, .int .i64 0, .int .i64 0] 45) := ⟨_, rfl⟩
  have hB2 : BoxAt w.heap.size 8 23 w W := by rw [hW]; exact BoxAt.fresh hB ((Kept.refl _ _).alloc _)
  have hR2 : W.heap[w.heap.size + 1]? = some (.cells #[.int .i64 0, .bool false, .int .i64 0, .int .i64 0] 45 (0, 0)) := by
    rw [hW]
    have hn := heap_alloc_new (w.alloc (.cells #[.int .i64 8, .int .i64 23] 42)) (.cells #[.int .i64 0, .bool false, .int .i64 0, .int .i64 0] 45)
    rwa [show (w.alloc (.cells #[.int .i64 8, .int .i64 23] 42)).heap.size = w.heap.size + 1 by simp] at hn
  go_enter Tryd.func25, Tryd.ntmps25
  go_upto_region 1 with fail
  rw [← hW]
  clear hW hB
  have hB2' : BoxAt w.heap.size 8 23 W W := ⟨hB2.1, Kept.refl _ _⟩
  go_cut [5, 6] (fun nv lv X => nv = .bool N ∧ lv = .int .u32 low ∧ BoxAt w.heap.size 8 23 w X ∧ Fresh W X)
  case first =>
    go_region_held3 (fun X => (X.cell? ⟨w.heap.size, 0, none⟩ = some (.int .i64 8) ∧ X.cell? ⟨w.heap.size, 1, none⟩ = some (.int .i64 23)) ∧ Fresh W X) (first | exact BoxAt.drew hB2' | exact hS' | assumption) (first | (go_at_call 36; refine (sign_single _).mono ?_; rintro r X ⟨rfl, hX⟩; have hS' : BoxAt w.heap.size 8 23 W X := BoxAt.fresh (by assumption) hX))
    all_goals
      go_wp2_with fail
      go_meet
      case rel =>
        exact ⟨rfl, rfl, ⟨hS'.1, hB2.2.trans hS'.2 (fun _ _ e => e)⟩, hS'.2⟩
  case rest =>
    obtain ⟨rfl, rfl, hBc, hWc⟩ := hcut
    have hTc : Tab wc := hT.fresh hBc.2
    have hRc := hWc.at hR2 (fun e => e)
    obtain ⟨⟨q0, q1⟩, q2⟩ := id hBc
    clear hB2 hB2' b1 b2 b3 b4 hR2 hWc
    go_wp2_with fail
    refine (infinite_single _).mono ?_
    rintro r X ⟨rfl, hX⟩
    have hBx := BoxAt.fresh hBc hX
    have hTx := hTc.fresh hX
    have hRx := hX.at hRc (fun e => e)
    clear hBc hTc q0 q1 q2 hRc hX
    obtain ⟨⟨q0, q1⟩, q2⟩ := id hBx
    obtain ⟨⟨r0, r1, r2, r3⟩, s0, s1, s2, s3⟩ := cells4 hRx
    by_cases g1 : 2139095040 < low
    · have hP : P = ⟨2, false, 0, 0⟩ := by
        rw [← HP.out, if_neg (by omega), if_neg (by omega), if_neg (by omega)]; rfl
      have HP2 := show Hid _ from hP
      have g1' : decide ((2139095040 : Int) < (low : Int)) = true := decide_eq_true (by omega)
      have g1'' : (2139095040 : Int) < (low : Int) := by omega
      clear hP HP g1
      go_wp2
      exact bodyPost_ret (v := (⟨2, false, 0, 0⟩ : Pt).val) (by simp [results, Tryd.results25, go_sem, r0, r1, r2, r3, Pt.val]) rfl ⟨by rw [HP2.out], fresh_set4 q2 (by omega) _ _ _ _⟩
    · have g1' : decide ((2139095040 : Int) < (low : Int)) = false := decide_eq_false (by omega)
      have g1'' : (low : Int) ≤ 2139095040 := by omega
      clear hBx
      go_wp2_with fail
      refine (infinite_single _).mono ?_
      rintro r Y ⟨rfl, hY⟩
      have hBy := BoxAt.fresh ⟨⟨q0, q1⟩, q2⟩ hY
      have hTy := hTx.fresh hY
      have hRy := hY.at hRx (fun e => e)
      clear hTx q0 q1 q2 hRx hY r0 r1 r2 r3 s0 s1 s2 s3 g1'
      obtain ⟨⟨q0, q1⟩, q2⟩ := id hBy
      obtain ⟨⟨r0, r1, r2, r3⟩, s0, s1, s2, s3⟩ := cells4 hRy
      by_cases g2 : low = 2139095040
      · have hP : P = ⟨1, N, 0, 0⟩ := by
          rw [← HP.out, if_neg (by omega), if_neg (by omega), if_pos g2]; rfl
        have HP2 := show Hid _ from hP
        have g2' : ((low : Int) == 2139095040) = true := by rw [g2]; rfl
        have g2'' : (low : Int) = 2139095040 := by omega
        clear hP HP g1 g2
        go_wp2
        exact bodyPost_ret (v := (⟨1, N, 0, 0⟩ : Pt).val) (by simp [results, Tryd.results25, go_sem, r0, r1, r2, r3, Pt.val]) rfl ⟨by rw [HP2.out], fresh_set4 q2 (by omega) _ _ _ _⟩
      · have g2' : ((low : Int) == 2139095040) = false := by simp only [beq_eq_false_iff_ne, ne_eq]; omega
        have hlt : low < 2139095040 := by omega
        by_cases g3 : low = 0
        · have hP : P = ⟨0, N, 0, 0⟩ := by
            rw [← HP.out, if_pos (by omega), g3]; rfl
          have HP2 := show Hid _ from hP
          subst g3
          clear hP HP g1 g2 g1'' hlt
          go_wp2
          exact bodyPost_ret (v := (⟨0, N, 0, 0⟩ : Pt).val) (by simp [results, Tryd.results25, go_sem, r0, r1, r2, r3, Pt.val]) rfl ⟨by rw [HP2.out], fresh_set4 q2 (by omega) _ _ _ _⟩
        · have g3' : ((low : Int) == 0) = false := by simp; omega
          obtain ⟨D, hD⟩ : ∃ D, D = low / 8388608 := ⟨_, rfl⟩
          obtain ⟨R, hR⟩ : ∃ R, R = low % 8388608 := ⟨_, rfl⟩
          have c1 : bits .and .u32 (low : Int) 8388607 = (R : Int) := by
            have := and_low low 23 (by omega) (by decide)
            rw [hR]; exact this
          have c2 : (low : Int) / 8388608 = (D : Int) := by omega
          have c3 : IntKind.u32.wrap 8388607 = 8388607 := by decide
          have hR2 : R < 8388608 := by omega
          have hD2 : D < 256 := by omega
          have HD := show Hid _ from And.intro hD hR
          have c4 : IntKind.i64.wrap (D : Int) = (D : Int) := by rw [IntKind.wrap_i64]; omega
          clear hBy g1 g2 g1'' hD hR
          go_wp2_with fail
          clear g2' g3'
          go_region_held3 (fun X => (X.cell? ⟨w.heap.size, 0, none⟩ = some (.int .i64 8) ∧ X.cell? ⟨w.heap.size, 1, none⟩ = some (.int .i64 23)) ∧ Fresh Y X) (first | exact BoxAt.drew ⟨⟨q0, q1⟩, Kept.refl _ _⟩ | assumption) (fail)
          clear c1 c2 c3 c4
          obtain ⟨hD, hR⟩ := HD.out
          obtain ⟨M, T, hMT, hP, hM0, hM2, hT2⟩ : ∃ M T : Nat, ((D = 0 ∧ M = R ∧ T = 0) ∨ (1 ≤ D ∧ M = R + 8388608 ∧ T = D - 1)) ∧ P = ⟨0, N, M / 2 ^ tz M, (-149) + (T : Int) + tz M⟩ ∧ M ≠ 0 ∧ M < 16777216 ∧ T < 256 := by
            by_cases g4 : D = 0
            · refine ⟨R, 0, .inl ⟨g4, rfl, rfl⟩, ?_, by omega, by omega, by omega⟩
              rw [← HP.out, if_pos (by omega), show low = R by omega]
              show ptOf (.number N R (-149)) = _
              unfold ptOf
              dsimp only
              rw [if_neg (by omega)]
              simp
            · refine ⟨R + 8388608, D - 1, .inr ⟨by omega, rfl, rfl⟩, ?_, by omega, by omega, by omega⟩
              rw [← HP.out, if_neg (by omega), if_pos hlt, ← hR, ← hD, Nat.add_comm 8388608 R]
              show ptOf (.number N (R + 8388608) _) = _
              unfold ptOf
              dsimp only
              rw [if_neg (by omega)]
          have HP2 := show Hid _ from hP
          have HMT := show Hid _ from hMT
          clear hP HP hMT hD hR HD hlt
          go_upto_if 52 with fail
          go_cut [8, 9] (fun mv sv X => mv = .int .u32 M ∧ sv = .int .i64 T ∧ Fresh Y X)
          case first =>
            rcases HMT.out with ⟨rfl, rfl, rfl⟩ | ⟨g4, rfl, rfl⟩
            · go_wp2_with fail
              go_meet
              case rel => exact ⟨rfl, rfl, (Kept.refl _ _).drew⟩
            · have g4' : (0 : Int) < (D : Int) := by omega
              obtain ⟨D', rfl⟩ : ∃ D', D = D' + 1 := ⟨D - 1, by omega⟩
              go_wp2_with fail
              go_meet
              case rel => exact ⟨by go_num, by go_num, (Kept.refl _ _).drew⟩
          case rest =>
            obtain ⟨rfl, rfl, hZ0⟩ := hcut
            have hBz := BoxAt.fresh ⟨⟨q0, q1⟩, q2⟩ hZ0
            have hTz := hTy.fresh hZ0
            have hRz := hZ0.at hRy (fun e => e)
            have htl : tz M < 32 := by obtain ⟨_, _, h⟩ := tz_spec hM0 (by omega); exact h
            have HTZ := show Hid _ from tz_any M (by omega)
            have d1 : (M : Int) / 2 ^ tz M = ((M / 2 ^ tz M : Nat) : Int) := by simp
            have dl : M / 2 ^ tz M ≤ M := Nat.div_le_self _ _
            clear q0 q1 q2 r0 r1 r2 r3 s0 s1 s2 s3 hTy hRy HMT hR2 hD2 hZ0
            change Hid (∀ (w : World) (hT : Tab w), Calls Tryd.prog 39 #[.int .u32 M] w fun e w' => e = .returned (.int .i64 (tz M)) ∧ w = w') at HTZ
            generalize tz M = z at *
            generalize M / 2 ^ z = Q at *
            obtain ⟨⟨q0, q1⟩, q2⟩ := id hBz
            go_wp2_with fail
            refine (HTZ.out _ hTz).mono ?_
            rintro r Z ⟨rfl, rfl⟩
            go_wp2_with fail
            go_region_with (first | (go_at_call 40; refine (least_single _).mono ?_; rintro r Z ⟨rfl, hZ⟩; have hZu := hZ.undrew; have hRZ := hZu.at hRz (fun e => e); obtain ⟨⟨r0, r1, r2, r3⟩, s0, s1, s2, s3⟩ := cells4 hRZ; have hFZ := q2.trans hZu (fun _ _ e => e)))
            all_goals
              go_wp2
              exact bodyPost_ret (v := (⟨0, N, Q, (-149) + (T : Int) + z⟩ : Pt).val) (by simp [results, Tryd.results25, go_sem, r0, r1, r2, r3, Pt.val]; simp only [IntKind.wrap_i64]; omega) rfl ⟨by rw [HP2.out], fresh_set4 hFZ (by omega) _ _ _ _⟩

set_option maxHeartbeats 4000000 in
theorem parts_half (b : Nat) (w : World) (hT : Tab w) (hb : b < 65536) :
    Calls Tryd.prog 25 #[fmtV 5 10, .int .u32 b] w fun e w' => e = .returned (ptOf (half.read b)).val ∧ Fresh w w' := by
  have a1 := and_bit b 15 (by omega) (by decide)
  have a2 := and_low b 15 (by omega) (by decide)
  have hN : (b / 32768 % 2 == 1) = (b / 2 ^ 15 % 2 == 1) := rfl
  obtain ⟨N, hNe⟩ : ∃ N, (b / 2 ^ 15 % 2 == 1) = N := ⟨_, rfl⟩
  obtain ⟨low, hlow⟩ : ∃ low, b % 2 ^ 15 = low := ⟨_, rfl⟩
  have hlow2 : low < 32768 := by rw [← hlow]; exact Nat.mod_lt _ (by decide)
  have hread : half.read b = if low < 1024 then .number N low (-24) else if low < 31744 then .number N (1024 + low % 1024) ((-24) + ((low / 1024 - 1 : Nat) : Int)) else if low = 31744 then .infinity N else .nan N (low - 31744) := by
    unfold Format.read
    have c1 : half.signWeight = 2 ^ 15 := by decide
    have c2 : half.binade = 1024 := by decide
    have c3 : half.infRung = 31744 := by decide
    have c4 : half.leastPlace = -24 := by decide
    simp only [c1, c2, c3, c4, hNe, hlow]
  rw [hread]
  obtain ⟨P, hP⟩ : ∃ P, ptOf (if low < 1024 then .number N low (-24) else if low < 31744 then .number N (1024 + low % 1024) ((-24) + ((low / 1024 - 1 : Nat) : Int)) else if low = 31744 then .infinity N else .nan N (low - 31744)) = P := ⟨_, rfl⟩
  rw [hP]
  have HP := show Hid _ from hP
  clear hP
  rw [hNe] at a1
  rw [hlow] at a2
  obtain ⟨G, b1, b4⟩ : ∃ G : Int, bits .and .u32 (b : Int) 32768 = G ∧ (G != 0) = N := ⟨_, rfl, by
    have a1' : bits .and .u32 (b : Int) 32768 = if N then 32768 else 0 := a1
    rw [a1']; cases N <;> rfl⟩
  have b2 : bits .and .u32 (b : Int) 32767 = (low : Int) := a2
  have b3 : IntKind.u32.wrap 32767 = 32767 := by decide
  clear a1 a2 hN hNe hlow hread
  have hB := BoxAt.new w 5 10 42
  obtain ⟨W, hW⟩ : ∃ W, W = (w.alloc (.cells #[.int .i64 5, .int .i64 10] 42)).alloc (.cells #[.int .i64 0, .bool false, .int .i64 0, .int .i64 0] 45) := ⟨_, rfl⟩
  have hB2 : BoxAt w.heap.size 5 10 w W := by rw [hW]; exact BoxAt.fresh hB ((Kept.refl _ _).alloc _)
  have hR2 : W.heap[w.heap.size + 1]? = some (.cells #[.int .i64 0, .bool false, .int .i64 0, .int .i64 0] 45 (0, 0)) := by
    rw [hW]
    have hn := heap_alloc_new (w.alloc (.cells #[.int .i64 5, .int .i64 10] 42)) (.cells #[.int .i64 0, .bool false, .int .i64 0, .int .i64 0] 45)
    rwa [show (w.alloc (.cells #[.int .i64 5, .int .i64 10] 42)).heap.size = w.heap.size + 1 by simp] at hn
  go_enter Tryd.func25, Tryd.ntmps25
  go_upto_region 1 with fail
  rw [← hW]
  clear hW hB
  have hB2' : BoxAt w.heap.size 5 10 W W := ⟨hB2.1, Kept.refl _ _⟩
  go_cut [5, 6] (fun nv lv X => nv = .bool N ∧ lv = .int .u32 low ∧ BoxAt w.heap.size 5 10 w X ∧ Fresh W X)
  case first =>
    go_region_held3 (fun X => (X.cell? ⟨w.heap.size, 0, none⟩ = some (.int .i64 5) ∧ X.cell? ⟨w.heap.size, 1, none⟩ = some (.int .i64 10)) ∧ Fresh W X) (first | exact BoxAt.drew hB2' | exact hS' | assumption) (first | (go_at_call 36; refine (sign_half _).mono ?_; rintro r X ⟨rfl, hX⟩; have hS' : BoxAt w.heap.size 5 10 W X := BoxAt.fresh (by assumption) hX))
    all_goals
      go_wp2_with fail
      go_meet
      case rel =>
        exact ⟨rfl, rfl, ⟨hS'.1, hB2.2.trans hS'.2 (fun _ _ e => e)⟩, hS'.2⟩
  case rest =>
    obtain ⟨rfl, rfl, hBc, hWc⟩ := hcut
    have hTc : Tab wc := hT.fresh hBc.2
    have hRc := hWc.at hR2 (fun e => e)
    obtain ⟨⟨q0, q1⟩, q2⟩ := id hBc
    clear hB2 hB2' b1 b2 b3 b4 hR2 hWc
    go_wp2_with fail
    refine (infinite_half _).mono ?_
    rintro r X ⟨rfl, hX⟩
    have hBx := BoxAt.fresh hBc hX
    have hTx := hTc.fresh hX
    have hRx := hX.at hRc (fun e => e)
    clear hBc hTc q0 q1 q2 hRc hX
    obtain ⟨⟨q0, q1⟩, q2⟩ := id hBx
    obtain ⟨⟨r0, r1, r2, r3⟩, s0, s1, s2, s3⟩ := cells4 hRx
    by_cases g1 : 31744 < low
    · have hP : P = ⟨2, false, 0, 0⟩ := by
        rw [← HP.out, if_neg (by omega), if_neg (by omega), if_neg (by omega)]; rfl
      have HP2 := show Hid _ from hP
      have g1' : decide ((31744 : Int) < (low : Int)) = true := decide_eq_true (by omega)
      have g1'' : (31744 : Int) < (low : Int) := by omega
      clear hP HP g1
      go_wp2
      exact bodyPost_ret (v := (⟨2, false, 0, 0⟩ : Pt).val) (by simp [results, Tryd.results25, go_sem, r0, r1, r2, r3, Pt.val]) rfl ⟨by rw [HP2.out], fresh_set4 q2 (by omega) _ _ _ _⟩
    · have g1' : decide ((31744 : Int) < (low : Int)) = false := decide_eq_false (by omega)
      have g1'' : (low : Int) ≤ 31744 := by omega
      clear hBx
      go_wp2_with fail
      refine (infinite_half _).mono ?_
      rintro r Y ⟨rfl, hY⟩
      have hBy := BoxAt.fresh ⟨⟨q0, q1⟩, q2⟩ hY
      have hTy := hTx.fresh hY
      have hRy := hY.at hRx (fun e => e)
      clear hTx q0 q1 q2 hRx hY r0 r1 r2 r3 s0 s1 s2 s3 g1'
      obtain ⟨⟨q0, q1⟩, q2⟩ := id hBy
      obtain ⟨⟨r0, r1, r2, r3⟩, s0, s1, s2, s3⟩ := cells4 hRy
      by_cases g2 : low = 31744
      · have hP : P = ⟨1, N, 0, 0⟩ := by
          rw [← HP.out, if_neg (by omega), if_neg (by omega), if_pos g2]; rfl
        have HP2 := show Hid _ from hP
        have g2' : ((low : Int) == 31744) = true := by rw [g2]; rfl
        have g2'' : (low : Int) = 31744 := by omega
        clear hP HP g1 g2
        go_wp2
        exact bodyPost_ret (v := (⟨1, N, 0, 0⟩ : Pt).val) (by simp [results, Tryd.results25, go_sem, r0, r1, r2, r3, Pt.val]) rfl ⟨by rw [HP2.out], fresh_set4 q2 (by omega) _ _ _ _⟩
      · have g2' : ((low : Int) == 31744) = false := by simp only [beq_eq_false_iff_ne, ne_eq]; omega
        have hlt : low < 31744 := by omega
        by_cases g3 : low = 0
        · have hP : P = ⟨0, N, 0, 0⟩ := by
            rw [← HP.out, if_pos (by omega), g3]; rfl
          have HP2 := show Hid _ from hP
          subst g3
          clear hP HP g1 g2 g1'' hlt
          go_wp2
          exact bodyPost_ret (v := (⟨0, N, 0, 0⟩ : Pt).val) (by simp [results, Tryd.results25, go_sem, r0, r1, r2, r3, Pt.val]) rfl ⟨by rw [HP2.out], fresh_set4 q2 (by omega) _ _ _ _⟩
        · have g3' : ((low : Int) == 0) = false := by simp; omega
          obtain ⟨D, hD⟩ : ∃ D, D = low / 1024 := ⟨_, rfl⟩
          obtain ⟨R, hR⟩ : ∃ R, R = low % 1024 := ⟨_, rfl⟩
          have c1 : bits .and .u32 (low : Int) 1023 = (R : Int) := by
            have := and_low low 10 (by omega) (by decide)
            rw [hR]; exact this
          have c2 : (low : Int) / 1024 = (D : Int) := by omega
          have c3 : IntKind.u32.wrap 1023 = 1023 := by decide
          have hR2 : R < 1024 := by omega
          have hD2 : D < 32 := by omega
          have HD := show Hid _ from And.intro hD hR
          have c4 : IntKind.i64.wrap (D : Int) = (D : Int) := by rw [IntKind.wrap_i64]; omega
          clear hBy g1 g2 g1'' hD hR
          go_wp2_with fail
          clear g2' g3'
          go_region_held3 (fun X => (X.cell? ⟨w.heap.size, 0, none⟩ = some (.int .i64 5) ∧ X.cell? ⟨w.heap.size, 1, none⟩ = some (.int .i64 10)) ∧ Fresh Y X) (first | exact BoxAt.drew ⟨⟨q0, q1⟩, Kept.refl _ _⟩ | assumption) (fail)
          clear c1 c2 c3 c4
          obtain ⟨hD, hR⟩ := HD.out
          obtain ⟨M, T, hMT, hP, hM0, hM2, hT2⟩ : ∃ M T : Nat, ((D = 0 ∧ M = R ∧ T = 0) ∨ (1 ≤ D ∧ M = R + 1024 ∧ T = D - 1)) ∧ P = ⟨0, N, M / 2 ^ tz M, (-24) + (T : Int) + tz M⟩ ∧ M ≠ 0 ∧ M < 2048 ∧ T < 256 := by
            by_cases g4 : D = 0
            · refine ⟨R, 0, .inl ⟨g4, rfl, rfl⟩, ?_, by omega, by omega, by omega⟩
              rw [← HP.out, if_pos (by omega), show low = R by omega]
              show ptOf (.number N R (-24)) = _
              unfold ptOf
              dsimp only
              rw [if_neg (by omega)]
              simp
            · refine ⟨R + 1024, D - 1, .inr ⟨by omega, rfl, rfl⟩, ?_, by omega, by omega, by omega⟩
              rw [← HP.out, if_neg (by omega), if_pos hlt, ← hR, ← hD, Nat.add_comm 1024 R]
              show ptOf (.number N (R + 1024) _) = _
              unfold ptOf
              dsimp only
              rw [if_neg (by omega)]
          have HP2 := show Hid _ from hP
          have HMT := show Hid _ from hMT
          clear hP HP hMT hD hR HD hlt
          go_upto_if 52 with fail
          go_cut [8, 9] (fun mv sv X => mv = .int .u32 M ∧ sv = .int .i64 T ∧ Fresh Y X)
          case first =>
            rcases HMT.out with ⟨rfl, rfl, rfl⟩ | ⟨g4, rfl, rfl⟩
            · go_wp2_with fail
              go_meet
              case rel => exact ⟨rfl, rfl, (Kept.refl _ _).drew⟩
            · have g4' : (0 : Int) < (D : Int) := by omega
              obtain ⟨D', rfl⟩ : ∃ D', D = D' + 1 := ⟨D - 1, by omega⟩
              go_wp2_with fail
              go_meet
              case rel => exact ⟨by go_num, by go_num, (Kept.refl _ _).drew⟩
          case rest =>
            obtain ⟨rfl, rfl, hZ0⟩ := hcut
            have hBz := BoxAt.fresh ⟨⟨q0, q1⟩, q2⟩ hZ0
            have hTz := hTy.fresh hZ0
            have hRz := hZ0.at hRy (fun e => e)
            have htl : tz M < 32 := by obtain ⟨_, _, h⟩ := tz_spec hM0 (by omega); exact h
            have HTZ := show Hid _ from tz_any M (by omega)
            have d1 : (M : Int) / 2 ^ tz M = ((M / 2 ^ tz M : Nat) : Int) := by simp
            have dl : M / 2 ^ tz M ≤ M := Nat.div_le_self _ _
            clear q0 q1 q2 r0 r1 r2 r3 s0 s1 s2 s3 hTy hRy HMT hR2 hD2 hZ0
            change Hid (∀ (w : World) (hT : Tab w), Calls Tryd.prog 39 #[.int .u32 M] w fun e w' => e = .returned (.int .i64 (tz M)) ∧ w = w') at HTZ
            generalize tz M = z at *
            generalize M / 2 ^ z = Q at *
            obtain ⟨⟨q0, q1⟩, q2⟩ := id hBz
            go_wp2_with fail
            refine (HTZ.out _ hTz).mono ?_
            rintro r Z ⟨rfl, rfl⟩
            go_wp2_with fail
            go_region_with (first | (go_at_call 40; refine (least_half _).mono ?_; rintro r Z ⟨rfl, hZ⟩; have hZu := hZ.undrew; have hRZ := hZu.at hRz (fun e => e); obtain ⟨⟨r0, r1, r2, r3⟩, s0, s1, s2, s3⟩ := cells4 hRZ; have hFZ := q2.trans hZu (fun _ _ e => e)))
            all_goals
              go_wp2
              exact bodyPost_ret (v := (⟨0, N, Q, (-24) + (T : Int) + z⟩ : Pt).val) (by simp [results, Tryd.results25, go_sem, r0, r1, r2, r3, Pt.val]; simp only [IntKind.wrap_i64]; omega) rfl ⟨by rw [HP2.out], fresh_set4 hFZ (by omega) _ _ _ _⟩

set_option maxHeartbeats 4000000 in
theorem parts_brain (b : Nat) (w : World) (hT : Tab w) (hb : b < 65536) :
    Calls Tryd.prog 25 #[fmtV 8 7, .int .u32 b] w fun e w' => e = .returned (ptOf (brain.read b)).val ∧ Fresh w w' := by
  have a1 := and_bit b 15 (by omega) (by decide)
  have a2 := and_low b 15 (by omega) (by decide)
  have hN : (b / 32768 % 2 == 1) = (b / 2 ^ 15 % 2 == 1) := rfl
  obtain ⟨N, hNe⟩ : ∃ N, (b / 2 ^ 15 % 2 == 1) = N := ⟨_, rfl⟩
  obtain ⟨low, hlow⟩ : ∃ low, b % 2 ^ 15 = low := ⟨_, rfl⟩
  have hlow2 : low < 32768 := by rw [← hlow]; exact Nat.mod_lt _ (by decide)
  have hread : brain.read b = if low < 128 then .number N low (-133) else if low < 32640 then .number N (128 + low % 128) ((-133) + ((low / 128 - 1 : Nat) : Int)) else if low = 32640 then .infinity N else .nan N (low - 32640) := by
    unfold Format.read
    have c1 : brain.signWeight = 2 ^ 15 := by decide
    have c2 : brain.binade = 128 := by decide
    have c3 : brain.infRung = 32640 := by decide
    have c4 : brain.leastPlace = -133 := by decide
    simp only [c1, c2, c3, c4, hNe, hlow]
  rw [hread]
  obtain ⟨P, hP⟩ : ∃ P, ptOf (if low < 128 then .number N low (-133) else if low < 32640 then .number N (128 + low % 128) ((-133) + ((low / 128 - 1 : Nat) : Int)) else if low = 32640 then .infinity N else .nan N (low - 32640)) = P := ⟨_, rfl⟩
  rw [hP]
  have HP := show Hid _ from hP
  clear hP
  rw [hNe] at a1
  rw [hlow] at a2
  obtain ⟨G, b1, b4⟩ : ∃ G : Int, bits .and .u32 (b : Int) 32768 = G ∧ (G != 0) = N := ⟨_, rfl, by
    have a1' : bits .and .u32 (b : Int) 32768 = if N then 32768 else 0 := a1
    rw [a1']; cases N <;> rfl⟩
  have b2 : bits .and .u32 (b : Int) 32767 = (low : Int) := a2
  have b3 : IntKind.u32.wrap 32767 = 32767 := by decide
  clear a1 a2 hN hNe hlow hread
  have hB := BoxAt.new w 8 7 42
  obtain ⟨W, hW⟩ : ∃ W, W = (w.alloc (.cells #[.int .i64 8, .int .i64 7] 42)).alloc (.cells #[.int .i64 0, .bool false, .int .i64 0, .int .i64 0] 45) := ⟨_, rfl⟩
  have hB2 : BoxAt w.heap.size 8 7 w W := by rw [hW]; exact BoxAt.fresh hB ((Kept.refl _ _).alloc _)
  have hR2 : W.heap[w.heap.size + 1]? = some (.cells #[.int .i64 0, .bool false, .int .i64 0, .int .i64 0] 45 (0, 0)) := by
    rw [hW]
    have hn := heap_alloc_new (w.alloc (.cells #[.int .i64 8, .int .i64 7] 42)) (.cells #[.int .i64 0, .bool false, .int .i64 0, .int .i64 0] 45)
    rwa [show (w.alloc (.cells #[.int .i64 8, .int .i64 7] 42)).heap.size = w.heap.size + 1 by simp] at hn
  go_enter Tryd.func25, Tryd.ntmps25
  go_upto_region 1 with fail
  rw [← hW]
  clear hW hB
  have hB2' : BoxAt w.heap.size 8 7 W W := ⟨hB2.1, Kept.refl _ _⟩
  go_cut [5, 6] (fun nv lv X => nv = .bool N ∧ lv = .int .u32 low ∧ BoxAt w.heap.size 8 7 w X ∧ Fresh W X)
  case first =>
    go_region_held3 (fun X => (X.cell? ⟨w.heap.size, 0, none⟩ = some (.int .i64 8) ∧ X.cell? ⟨w.heap.size, 1, none⟩ = some (.int .i64 7)) ∧ Fresh W X) (first | exact BoxAt.drew hB2' | exact hS' | assumption) (first | (go_at_call 36; refine (sign_brain _).mono ?_; rintro r X ⟨rfl, hX⟩; have hS' : BoxAt w.heap.size 8 7 W X := BoxAt.fresh (by assumption) hX))
    all_goals
      go_wp2_with fail
      go_meet
      case rel =>
        exact ⟨rfl, rfl, ⟨hS'.1, hB2.2.trans hS'.2 (fun _ _ e => e)⟩, hS'.2⟩
  case rest =>
    obtain ⟨rfl, rfl, hBc, hWc⟩ := hcut
    have hTc : Tab wc := hT.fresh hBc.2
    have hRc := hWc.at hR2 (fun e => e)
    obtain ⟨⟨q0, q1⟩, q2⟩ := id hBc
    clear hB2 hB2' b1 b2 b3 b4 hR2 hWc
    go_wp2_with fail
    refine (infinite_brain _).mono ?_
    rintro r X ⟨rfl, hX⟩
    have hBx := BoxAt.fresh hBc hX
    have hTx := hTc.fresh hX
    have hRx := hX.at hRc (fun e => e)
    clear hBc hTc q0 q1 q2 hRc hX
    obtain ⟨⟨q0, q1⟩, q2⟩ := id hBx
    obtain ⟨⟨r0, r1, r2, r3⟩, s0, s1, s2, s3⟩ := cells4 hRx
    by_cases g1 : 32640 < low
    · have hP : P = ⟨2, false, 0, 0⟩ := by
        rw [← HP.out, if_neg (by omega), if_neg (by omega), if_neg (by omega)]; rfl
      have HP2 := show Hid _ from hP
      have g1' : decide ((32640 : Int) < (low : Int)) = true := decide_eq_true (by omega)
      have g1'' : (32640 : Int) < (low : Int) := by omega
      clear hP HP g1
      go_wp2
      exact bodyPost_ret (v := (⟨2, false, 0, 0⟩ : Pt).val) (by simp [results, Tryd.results25, go_sem, r0, r1, r2, r3, Pt.val]) rfl ⟨by rw [HP2.out], fresh_set4 q2 (by omega) _ _ _ _⟩
    · have g1' : decide ((32640 : Int) < (low : Int)) = false := decide_eq_false (by omega)
      have g1'' : (low : Int) ≤ 32640 := by omega
      clear hBx
      go_wp2_with fail
      refine (infinite_brain _).mono ?_
      rintro r Y ⟨rfl, hY⟩
      have hBy := BoxAt.fresh ⟨⟨q0, q1⟩, q2⟩ hY
      have hTy := hTx.fresh hY
      have hRy := hY.at hRx (fun e => e)
      clear hTx q0 q1 q2 hRx hY r0 r1 r2 r3 s0 s1 s2 s3 g1'
      obtain ⟨⟨q0, q1⟩, q2⟩ := id hBy
      obtain ⟨⟨r0, r1, r2, r3⟩, s0, s1, s2, s3⟩ := cells4 hRy
      by_cases g2 : low = 32640
      · have hP : P = ⟨1, N, 0, 0⟩ := by
          rw [← HP.out, if_neg (by omega), if_neg (by omega), if_pos g2]; rfl
        have HP2 := show Hid _ from hP
        have g2' : ((low : Int) == 32640) = true := by rw [g2]; rfl
        have g2'' : (low : Int) = 32640 := by omega
        clear hP HP g1 g2
        go_wp2
        exact bodyPost_ret (v := (⟨1, N, 0, 0⟩ : Pt).val) (by simp [results, Tryd.results25, go_sem, r0, r1, r2, r3, Pt.val]) rfl ⟨by rw [HP2.out], fresh_set4 q2 (by omega) _ _ _ _⟩
      · have g2' : ((low : Int) == 32640) = false := by simp only [beq_eq_false_iff_ne, ne_eq]; omega
        have hlt : low < 32640 := by omega
        by_cases g3 : low = 0
        · have hP : P = ⟨0, N, 0, 0⟩ := by
            rw [← HP.out, if_pos (by omega), g3]; rfl
          have HP2 := show Hid _ from hP
          subst g3
          clear hP HP g1 g2 g1'' hlt
          go_wp2
          exact bodyPost_ret (v := (⟨0, N, 0, 0⟩ : Pt).val) (by simp [results, Tryd.results25, go_sem, r0, r1, r2, r3, Pt.val]) rfl ⟨by rw [HP2.out], fresh_set4 q2 (by omega) _ _ _ _⟩
        · have g3' : ((low : Int) == 0) = false := by simp; omega
          obtain ⟨D, hD⟩ : ∃ D, D = low / 128 := ⟨_, rfl⟩
          obtain ⟨R, hR⟩ : ∃ R, R = low % 128 := ⟨_, rfl⟩
          have c1 : bits .and .u32 (low : Int) 127 = (R : Int) := by
            have := and_low low 7 (by omega) (by decide)
            rw [hR]; exact this
          have c2 : (low : Int) / 128 = (D : Int) := by omega
          have c3 : IntKind.u32.wrap 127 = 127 := by decide
          have hR2 : R < 128 := by omega
          have hD2 : D < 256 := by omega
          have HD := show Hid _ from And.intro hD hR
          have c4 : IntKind.i64.wrap (D : Int) = (D : Int) := by rw [IntKind.wrap_i64]; omega
          clear hBy g1 g2 g1'' hD hR
          go_wp2_with fail
          clear g2' g3'
          go_region_held3 (fun X => (X.cell? ⟨w.heap.size, 0, none⟩ = some (.int .i64 8) ∧ X.cell? ⟨w.heap.size, 1, none⟩ = some (.int .i64 7)) ∧ Fresh Y X) (first | exact BoxAt.drew ⟨⟨q0, q1⟩, Kept.refl _ _⟩ | assumption) (fail)
          clear c1 c2 c3 c4
          obtain ⟨hD, hR⟩ := HD.out
          obtain ⟨M, T, hMT, hP, hM0, hM2, hT2⟩ : ∃ M T : Nat, ((D = 0 ∧ M = R ∧ T = 0) ∨ (1 ≤ D ∧ M = R + 128 ∧ T = D - 1)) ∧ P = ⟨0, N, M / 2 ^ tz M, (-133) + (T : Int) + tz M⟩ ∧ M ≠ 0 ∧ M < 256 ∧ T < 256 := by
            by_cases g4 : D = 0
            · refine ⟨R, 0, .inl ⟨g4, rfl, rfl⟩, ?_, by omega, by omega, by omega⟩
              rw [← HP.out, if_pos (by omega), show low = R by omega]
              show ptOf (.number N R (-133)) = _
              unfold ptOf
              dsimp only
              rw [if_neg (by omega)]
              simp
            · refine ⟨R + 128, D - 1, .inr ⟨by omega, rfl, rfl⟩, ?_, by omega, by omega, by omega⟩
              rw [← HP.out, if_neg (by omega), if_pos hlt, ← hR, ← hD, Nat.add_comm 128 R]
              show ptOf (.number N (R + 128) _) = _
              unfold ptOf
              dsimp only
              rw [if_neg (by omega)]
          have HP2 := show Hid _ from hP
          have HMT := show Hid _ from hMT
          clear hP HP hMT hD hR HD hlt
          go_upto_if 52 with fail
          go_cut [8, 9] (fun mv sv X => mv = .int .u32 M ∧ sv = .int .i64 T ∧ Fresh Y X)
          case first =>
            rcases HMT.out with ⟨rfl, rfl, rfl⟩ | ⟨g4, rfl, rfl⟩
            · go_wp2_with fail
              go_meet
              case rel => exact ⟨rfl, rfl, (Kept.refl _ _).drew⟩
            · have g4' : (0 : Int) < (D : Int) := by omega
              obtain ⟨D', rfl⟩ : ∃ D', D = D' + 1 := ⟨D - 1, by omega⟩
              go_wp2_with fail
              go_meet
              case rel => exact ⟨by go_num, by go_num, (Kept.refl _ _).drew⟩
          case rest =>
            obtain ⟨rfl, rfl, hZ0⟩ := hcut
            have hBz := BoxAt.fresh ⟨⟨q0, q1⟩, q2⟩ hZ0
            have hTz := hTy.fresh hZ0
            have hRz := hZ0.at hRy (fun e => e)
            have htl : tz M < 32 := by obtain ⟨_, _, h⟩ := tz_spec hM0 (by omega); exact h
            have HTZ := show Hid _ from tz_any M (by omega)
            have d1 : (M : Int) / 2 ^ tz M = ((M / 2 ^ tz M : Nat) : Int) := by simp
            have dl : M / 2 ^ tz M ≤ M := Nat.div_le_self _ _
            clear q0 q1 q2 r0 r1 r2 r3 s0 s1 s2 s3 hTy hRy HMT hR2 hD2 hZ0
            change Hid (∀ (w : World) (hT : Tab w), Calls Tryd.prog 39 #[.int .u32 M] w fun e w' => e = .returned (.int .i64 (tz M)) ∧ w = w') at HTZ
            generalize tz M = z at *
            generalize M / 2 ^ z = Q at *
            obtain ⟨⟨q0, q1⟩, q2⟩ := id hBz
            go_wp2_with fail
            refine (HTZ.out _ hTz).mono ?_
            rintro r Z ⟨rfl, rfl⟩
            go_wp2_with fail
            go_region_with (first | (go_at_call 40; refine (least_brain _).mono ?_; rintro r Z ⟨rfl, hZ⟩; have hZu := hZ.undrew; have hRZ := hZu.at hRz (fun e => e); obtain ⟨⟨r0, r1, r2, r3⟩, s0, s1, s2, s3⟩ := cells4 hRZ; have hFZ := q2.trans hZu (fun _ _ e => e)))
            all_goals
              go_wp2
              exact bodyPost_ret (v := (⟨0, N, Q, (-133) + (T : Int) + z⟩ : Pt).val) (by simp [results, Tryd.results25, go_sem, r0, r1, r2, r3, Pt.val]; simp only [IntKind.wrap_i64]; omega) rfl ⟨by rw [HP2.out], fresh_set4 hFZ (by omega) _ _ _ _⟩

end Go.Proofs.YtagbjlkpmjbfnacDoor
