/-
  Stretched and Table, the package's.
-/
import Derived.Test.YtakiimjldccgcabDoorRoaToGr2
import Derived.Deep.DeepCutAuto
import Derived.Test.YtakiimjldccgcabDoorNumToFw
namespace Go.Proofs.YtakiimjldccgcabDoor
open Go.RowKit Go.Lib Go.Maps

theorem paired_any (n : Int) (w : World) : Calls Tryd.prog 78 #[zV n] w fun e w' => e = .returned (.bool (decide (1 ≤ n) && decide (n ≤ 32))) ∧ w' = w := by
  by_cases h : 1 ≤ n
  · rw [show decide (1 ≤ n) = true by simp [h], Bool.true_and]
    go_enter Tryd.func78, Tryd.ntmps78
    go_wp2
    go_ret
    exact ⟨rfl, rfl⟩
  · rw [show decide (1 ≤ n) = false by simp; omega, Bool.false_and]
    go_enter Tryd.func78, Tryd.ntmps78
    go_wp2
    go_ret
    exact ⟨rfl, rfl⟩
theorem stretches_any (n : Int) (w : World) : Calls Tryd.prog 79 #[zV n] w fun e w' => e = .returned (.bool (decide (1 ≤ n) && decide (n ≤ 65536))) ∧ w' = w := by
  by_cases h : 1 ≤ n
  · rw [show decide (1 ≤ n) = true by simp [h], Bool.true_and]
    go_enter Tryd.func79, Tryd.ntmps79
    go_wp2
    go_ret
    exact ⟨rfl, rfl⟩
  · rw [show decide (1 ≤ n) = false by simp; omega, Bool.false_and]
    go_enter Tryd.func79, Tryd.ntmps79
    go_wp2
    go_ret
    exact ⟨rfl, rfl⟩
set_option maxHeartbeats 400000 in
theorem cosine_any (a : Int) (w : World) (hS : Sin w) (h0 : 0 ≤ a) (h1 : a ≤ 4294967296) :
    Calls Tryd.prog 80 #[zV a] w fun e w' => e = .returned (.int .i8 (sn (a + 64))) ∧ w' = w := by
  have H : Hid (Unit → _) := fun (_ : Unit) => Sine_any (a + 64) w hS
  clear hS
  go_enter Tryd.func80, Tryd.ntmps80
  go_wp2_with fail
  refine (H.out ()).mono ?_
  rintro e w1 ⟨rfl, rfl⟩
  go_wp2
  go_ret
  exact ⟨rfl, rfl⟩
theorem pow31 (i : Nat) (hi : i < 32) : (1 : Int) ≤ 2 ^ i ∧ (2 : Int) ^ i ≤ 2147483648 := by
  have h1 : 2 ^ i ≤ 2 ^ 31 := Nat.pow_le_pow_right (by decide) (by omega)
  have h2 : 1 ≤ 2 ^ i := Nat.one_le_two_pow
  have e : ((2 ^ i : Nat) : Int) = (2 : Int) ^ i := by simp
  rw [← e]
  omega
theorem ang_bound {num den : Int} {p i : Nat} (h1 : 1 ≤ num) (h2 : num ≤ 65536) (h3 : 1 ≤ den) (h4 : den ≤ 65536) (hp : p ≤ 512) (hi : i < 32) :
    0 ≤ 64 * (p : Int) * num ∧ 64 * (p : Int) * num ≤ 2147483648 ∧ 1 ≤ 2 ^ i * den ∧ 2 ^ i * den ≤ 140737488355328 ∧ 0 ≤ ang num den p i ∧ ang num den p i ≤ 2147483648 := by
  obtain ⟨q1, q2⟩ := pow31 i hi
  have m1 : 0 ≤ 64 * (p : Int) * num := Int.mul_nonneg (by omega) (by omega)
  have m2 : 64 * (p : Int) * num ≤ 2147483648 := by
    have := Int.mul_le_mul (show 64 * (p : Int) ≤ 32768 by omega) h2 (by omega) (by omega)
    omega
  have m3 : 1 ≤ 2 ^ i * den := by
    have := Int.mul_le_mul q1 h3 (by omega) (by omega)
    omega
  have m4 : 2 ^ i * den ≤ 140737488355328 := by
    have := Int.mul_le_mul q2 h4 (by omega) (by omega)
    omega
  refine ⟨m1, m2, m3, m4, Int.ediv_nonneg m1 (by omega), ?_⟩
  unfold ang
  generalize 64 * (p : Int) * num = A at *
  generalize (2 : Int) ^ i * den = D at *
  have := Int.ediv_le_self D m1
  omega

set_option maxHeartbeats 4000000 in
set_option maxRecDepth 100000 in
theorem Stretched_any (places half num den : Int) (w : World) (hS : Sin w) :
    Calls Tryd.prog 67 #[zV places, zV half, zV num, zV den] w fun e w' => Gives2 (cosL places half num den) (sinL places half num den) (stE places half num den) w e w' := by
  have HG : Hid (∀ (E : Int), Gives2 [] [] E w (.returned (.tuple #[.slice none 0 0, .slice none 0 0, zV E])) w) := fun E => Gives2.none _ _
  have HP : Hid (Unit → _) := fun (_ : Unit) => paired_any half w
  have HN : Hid (Unit → _) := fun (_ : Unit) => stretches_any num w
  have HD : Hid (Unit → _) := fun (_ : Unit) => stretches_any den w
  rcases stE_cases places half num den with ⟨h2, h⟩ | ⟨P, h, rfl, rfl, p1, p2, q1, q2, ⟨h2, h3⟩ | ⟨h2, n1, n2, d1, d2⟩⟩
  · rw [cosL_bad (by rw [h2]; decide), sinL_bad (by rw [h2]; decide), h2]
    clear h2 HN HD hS
    by_cases c1 : places < 1
    · go_enter Tryd.func67, Tryd.ntmps67
      go_wp2
      go_ret3
      exact HG.out _
    · by_cases c2 : 512 < places
      · have c1' : decide (places < 1) = false := by simp; omega
        go_enter Tryd.func67, Tryd.ntmps67
        go_wp2
        go_ret3
        exact HG.out _
      · have c1' : decide (places < 1) = false := by simp; omega
        have c2' : decide (512 < places) = false := by simp; omega
        rw [show (decide (1 ≤ half) && decide (half ≤ 32)) = false by simp; omega] at HP
        go_enter Tryd.func67, Tryd.ntmps67
        go_wp2_with fail
        refine (HP.out ()).mono ?_
        rintro e w1 ⟨rfl, rfl⟩
        go_wp2
        go_ret3
        exact HG.out _
  · rw [cosL_bad (by rw [h2]; decide), sinL_bad (by rw [h2]; decide), h2]
    rw [show (decide (1 ≤ (h : Int)) && decide ((h : Int) ≤ 32)) = true by simp; omega] at HP
    have c1' : decide ((P : Int) < 1) = false := by simp; omega
    have c2' : decide (512 < (P : Int)) = false := by simp; omega
    clear h2 hS
    by_cases c3 : num < 1 ∨ 65536 < num
    · rw [show (decide (1 ≤ num) && decide (num ≤ 65536)) = false by simp; omega] at HN
      go_enter Tryd.func67, Tryd.ntmps67
      go_wp2_with fail
      refine (HP.out ()).mono ?_
      rintro e w1 ⟨rfl, rfl⟩
      go_wp2_with fail
      refine (HN.out ()).mono ?_
      rintro e w1 ⟨rfl, rfl⟩
      go_wp2
      go_ret3
      exact HG.out _
    · rw [show (decide (1 ≤ num) && decide (num ≤ 65536)) = true by simp; omega] at HN
      rw [show (decide (1 ≤ den) && decide (den ≤ 65536)) = false by simp; omega] at HD
      go_enter Tryd.func67, Tryd.ntmps67
      go_wp2_with fail
      refine (HP.out ()).mono ?_
      rintro e w1 ⟨rfl, rfl⟩
      go_wp2_with fail
      refine (HN.out ()).mono ?_
      rintro e w1 ⟨rfl, rfl⟩
      go_wp2_with fail
      refine (HD.out ()).mono ?_
      rintro e w1 ⟨rfl, rfl⟩
      go_wp2
      go_ret3
      exact HG.out _
  · rw [cosL_ok h2, sinL_ok h2, h2]
    rw [show (decide (1 ≤ (h : Int)) && decide ((h : Int) ≤ 32)) = true by simp; omega] at HP
    rw [show (decide (1 ≤ num) && decide (num ≤ 65536)) = true by simp; omega] at HN
    rw [show (decide (1 ≤ den) && decide (den ≤ 65536)) = true by simp; omega] at HD
    have c1' : decide ((P : Int) < 1) = false := by simp; omega
    have c2' : decide (512 < (P : Int)) = false := by simp; omega
    have hPh : P * h ≤ 16384 := by have := Nat.mul_le_mul p2 q2; omega
    have HPh : Hid (P * h ≤ 16384) := hPh
    obtain ⟨n, hn⟩ : ∃ n, P * h = n := ⟨_, rfl⟩
    have hn2 : (P : Int) * (h : Int) = (n : Int) := by rw [← hn]; simp
    have HM : Hid (∀ W : World, (Instr.makeSlice 45 (.int .i64 0) (.int .i64 (n : Int))).run Tryd.prog W = .ok (.slice (some ⟨W.heap.size, 0, none⟩) 0 n) (W.alloc (.cells ((List.replicate n (0 : Int)).map (Value.int .i8)).toArray 68))) := fun W => run_mk ty8 0 n (Nat.zero_le _) (by simp [kb]; omega) W
    have hm1 := HM.out w.drew
    have hm2 := HM.out (w.alloc (.cells ((List.replicate n (0 : Int)).map (Value.int .i8)).toArray 68)).drew
    have HS0 : Hid (Gr2 w (cosF num den h) (sinF num den h) 0 0 w.heap.size n (w.heap.size + 1) n _) := Gr2.made w w.drew _ _ n (Kept.refl (fun _ => False) w).drew (by omega)
    have HSin : Hid (Sin w) := hS
    rw [hn]
    generalize (Obj.cells ((List.replicate n (0 : Int)).map (Value.int .i8)).toArray 68) = Z at *
    clear h2 HG HM hS
    go_enter Tryd.func67, Tryd.ntmps67
    go_wp2_with fail
    refine (HP.out ()).mono ?_
    rintro e w1 ⟨rfl, hw1⟩
    have hw2 := hw1.symm
    subst hw2
    clear hw1 HP
    go_wp2_with fail
    refine (HN.out ()).mono ?_
    rintro e w1 ⟨rfl, hw1⟩
    have hw2 := hw1.symm
    subst hw2
    clear hw1 HN
    go_wp2_with fail
    refine (HD.out ()).mono ?_
    rintro e w1 ⟨rfl, hw1⟩
    have hw2 := hw1.symm
    subst hw2
    clear hw1 HD
    go_upto_region 5 with fail
    go_cut [11, 12] (fun cv sv w' => ∃ g1 g2, cv = .slice (some ⟨g1, 0, none⟩) 0 n ∧ sv = .slice (some ⟨g2, 0, none⟩) 0 n ∧ Hid (Gr2 w (cosF num den h) (sinF num den h) 0 0 g1 n g2 n w'))
    case first =>
      go_region
      all_goals
        go_wp2
        go_meet
        case rel => first
          | exact ⟨_, _, rfl, rfl, HS0.out⟩
          | exact ⟨_, _, rfl, rfl, HS0.out.flip⟩
    case rest =>
      obtain ⟨g1, g2, rfl, rfl, HA⟩ := hcut
      clear hm1 hm2 HS0
      go_wp2
      go_loopw [11, 12, 44] (fun cv sv pv wr => ∃ p g1 c1 g2 c2 : Nat, p ≤ P ∧ pv = zV p ∧ cv = .slice (some ⟨g1, 0, none⟩) (p * h) c1 ∧ sv = .slice (some ⟨g2, 0, none⟩) (p * h) c2 ∧ Hid (Gr2 w (cosF num den h) (sinF num den h) (p * h) (p * h) g1 c1 g2 c2 wr)) (fun _ _ pv _ => P - (RowKit.intOf pv).toNat)
      case atStart => exact ⟨0, _, _, _, _, Nat.zero_le _, rfl, by rw [Nat.zero_mul], by rw [Nat.zero_mul], by rw [Nat.zero_mul]; exact HA.out⟩
      case round =>
        obtain ⟨p, a1, e1, a2, e2, hp, rfl, rfl, rfl, HB⟩ := hrel
        clear HA
        by_cases hlt : p < P
        · have hlt' : (p : Int) < (P : Int) := by omega
          go_wp2
          go_loopw [11, 12, 48] (fun cv sv iv wr => ∃ i g1 c1 g2 c2 : Nat, i ≤ h ∧ iv = zV i ∧ cv = .slice (some ⟨g1, 0, none⟩) (p * h + i) c1 ∧ sv = .slice (some ⟨g2, 0, none⟩) (p * h + i) c2 ∧ Hid (Gr2 w (cosF num den h) (sinF num den h) (p * h + i) (p * h + i) g1 c1 g2 c2 wr)) (fun _ _ iv _ => h - (RowKit.intOf iv).toNat)
          case atStart => exact ⟨0, _, _, _, _, Nat.zero_le _, rfl, rfl, rfl, HB.out⟩
          case round =>
            obtain ⟨i, b1, f1, b2, f2, hi, rfl, rfl, rfl, HC⟩ := hrel
            clear HB
            by_cases hil : i < h
            · have hil' : (i : Int) < (h : Int) := by omega
              obtain ⟨m1, m2, m3, m4, m5, m6⟩ := ang_bound (p := p) (i := i) n1 n2 d1 d2 (by omega) (by omega)
              have hk1 : 64 * (p : Int) * num / (den * 2 ^ i) = ang num den p i := by unfold ang; rw [Int.mul_comm den]
              rw [Int.mul_comm (2 ^ i) den] at m3 m4
              have hsz : p * h + i + 1 ≤ 16384 := by
                have := Nat.mul_le_mul_right h (show p + 1 ≤ P by omega)
                rw [Nat.add_mul] at this
                have := HPh.out
                omega
              have HCo : Hid (∀ W, Sin W → _) := fun W hW => cosine_any (ang num den p i) W hW m5 (by omega)
              have HSi : Hid (∀ W, Sin W → _) := fun W hW => Sine_any (ang num den p i) W hW
              have HE1 : Hid (cosF num den h (p * h + i) = sn (ang num den p i + 64)) := cosF_at _ _ _ _ hil
              have HE2 : Hid (sinF num den h (p * h + i) = sn (ang num den p i)) := sinF_at _ _ _ _ hil
              obtain ⟨A, hA⟩ : ∃ A, 64 * (p : Int) * num = A := ⟨_, rfl⟩
              obtain ⟨D, hD⟩ : ∃ D, den * 2 ^ i = D := ⟨_, rfl⟩
              rw [hA] at m1 m2 hk1
              rw [hD] at m3 m4 hk1
              generalize ang num den p i = a at *
              have hk2 : A.tdiv D = a := (Int.tdiv_eq_ediv_of_nonneg m1).trans hk1
              have h64 : 0 ≤ 64 * (p : Int) ∧ 64 * (p : Int) ≤ 32768 := by omega
              obtain ⟨q, hq⟩ : ∃ q, p * h + i = q := ⟨_, rfl⟩
              rw [hq] at HE1 HE2 HC hsz ⊢
              go_wp2_with fail
              refine (HCo.out _ (HSin.out.fresh HC.out.old)).mono ?_
              rintro e w3 ⟨rfl, hw3⟩
              have hw3' := hw3.symm
              subst hw3'
              obtain ⟨b1', f1', X1, hr1, hX1⟩ := HC.out.push (by omega)
              rw [HE1.out] at hr1
              have HX1 : Hid (Gr2 w (cosF num den h) (sinF num den h) (q + 1) q b1' f1' b2 f2 X1) := hX1
              clear hw3 HCo HC hX1 HE1
              go_wp2_with (at_builtin; refine Lib.wpList_append_run _ rfl _ _ _ _ rfl _ _ rfl rfl _ _ hr1 ?_; clear hr1)
              refine (HSi.out _ (HSin.out.fresh HX1.out.old)).mono ?_
              rintro e w3 ⟨rfl, hw3⟩
              have hw3' := hw3.symm
              subst hw3'
              obtain ⟨b2', f2', X2, hr2, hX2⟩ := HX1.out.push' (by omega)
              rw [HE2.out] at hr2
              have HX2 : Hid (Gr2 w (cosF num den h) (sinF num den h) (q + 1) (q + 1) b1' f1' b2' f2' X2) := hX2
              clear hw3 HSi HX1 hX2 HE2
              go_wp2_with (at_builtin; refine Lib.wpList_append_run _ rfl _ _ _ _ rfl _ _ rfl rfl _ _ hr2 ?_; clear hr2)
              go_roundw
              case rel => exact ⟨i + 1, _, _, _, _, hil, by go_num, by rw [← Nat.add_assoc, hq], by rw [← Nat.add_assoc, hq], by rw [← Nat.add_assoc, hq]; exact HX2.out⟩
              case measure => simp [RowKit.intOf]; omega
            · obtain rfl : i = h := by omega
              have HC' : Hid (Gr2 w (cosF num den i) (sinF num den i) ((p + 1) * i) ((p + 1) * i) b1 f1 b2 f2 wr) := by show Gr2 _ _ _ _ _ _ _ _ _ _; rw [Nat.add_mul, Nat.one_mul]; exact HC.out
              clear HC
              go_wp2
              go_roundw
              case rel => exact ⟨p + 1, _, _, _, _, hlt, by go_num, by rw [Nat.add_mul, Nat.one_mul], by rw [Nat.add_mul, Nat.one_mul], HC'.out⟩
              case measure => simp [RowKit.intOf]; omega
        · obtain rfl : p = P := by omega
          have HXX : Hid (Gives2 (mkL (p * h) (cosF num den h)) (mkL (p * h) (sinF num den h)) 0 w (.returned (.tuple #[.slice (some ⟨a1, 0, none⟩) (p * h) e1, .slice (some ⟨a2, 0, none⟩) (p * h) e2, zV 0])) wr) := HB.out.done 0
          rw [hn] at HXX ⊢
          clear HB
          go_wp2
          go_ret3
          exact HXX.out

set_option maxHeartbeats 400000 in
theorem ropeTable_any (places half : Int) (w : World) (hS : Sin w) :
    Calls Tryd.prog 47 #[zV places, zV half] w fun e w' => Gives2 (cosL places half 1 1) (sinL places half 1 1) (stE places half 1 1) w e w' := by
  have H : Hid (Unit → _) := fun (_ : Unit) => Stretched_any places half 1 1 w hS
  clear hS
  generalize cosL places half 1 1 = A at *
  generalize sinL places half 1 1 = B at *
  generalize stE places half 1 1 = E at *
  go_enter Tryd.func47, Tryd.ntmps47
  go_wp2_with fail
  refine (H.out ()).mono ?_
  rintro e w1 ⟨u, v, rfl, h1, h2, h3, hF⟩
  have HX : Hid (Gives2 A B E w (.returned (.tuple #[u, v, zV E])) w1) := ⟨u, v, rfl, h1, h2, h3, hF⟩
  clear h1 h2 h3 hF H
  go_wp2
  go_ret3
  exact HX.out
end Go.Proofs.YtakiimjldccgcabDoor

/-
  Exp2, the package's (for seats with rows of Vca).
-/
namespace Go.Proofs.YtakiimjldccgcabDoor
open Go.RowKit

/-- The array of the three constants. -/
def Bend (w : World) : Prop :=
  w.cell? ⟨1, 0, none⟩ = some (.int .i64 84941200) ∧ w.cell? ⟨1, 1, none⟩ = some (.int .i64 241400000) ∧ w.cell? ⟨1, 2, none⟩ = some (.int .i64 747400624)
theorem Bend.drew {w w' : World} (h : Bend w) (k : Drew w w') : Bend w' := by obtain ⟨n, rfl⟩ := k; exact h

def polyA (t : Int) : Int := 241400000 + 84941200 * t / 65536
def polyB (t : Int) : Int := 747400624 + polyA t * t / 65536
def polyC (t : Int) : Int := 1073741824 + polyB t * t / 65536
/-- What the document reckons. -/
def exp2 (x : Int) : Int := if 31 ≤ -(min x 0 / 65536) then 0 else polyC (min x 0 % 65536) / 2 ^ (-(min x 0 / 65536)).toNat

theorem mul_bound {a t A T : Int} (h0 : 0 ≤ a) (h1 : a ≤ A) (t0 : 0 ≤ t) (t1 : t ≤ T) : 0 ≤ a * t ∧ a * t ≤ A * T :=
  ⟨Int.mul_nonneg h0 t0, Int.mul_le_mul h1 t1 t0 (by omega)⟩

theorem polyA_bound {t : Int} (t0 : 0 ≤ t) (t1 : t ≤ 65535) : 0 ≤ polyA t ∧ polyA t ≤ 326341200 := by unfold polyA; omega
theorem polyB_bound {t : Int} (t0 : 0 ≤ t) (t1 : t ≤ 65535) : 0 ≤ polyB t ∧ polyB t ≤ 1073741824 := by
  obtain ⟨a0, a1⟩ := polyA_bound t0 t1
  obtain ⟨m0, m1⟩ := mul_bound a0 a1 t0 t1
  unfold polyB; omega
theorem polyC_bound {t : Int} (t0 : 0 ≤ t) (t1 : t ≤ 65535) : 1073741824 ≤ polyC t ∧ polyC t ≤ 2147483647 := by
  obtain ⟨a0, a1⟩ := polyB_bound t0 t1
  obtain ⟨m0, m1⟩ := mul_bound a0 a1 t0 t1
  unfold polyC; omega

def bendC (t : Int) : Nat → Int
  | 0 => 0
  | 1 => 84941200
  | 2 => polyA t
  | _ => polyB t

set_option maxHeartbeats 400000 in
theorem exp2_far (x : Int) (w : World) (hx : I64 x) (hn : x ≤ 0) (hf : 31 ≤ -(x / 65536)) :
    Calls Tryd.prog 97 #[.int .i64 x] w fun e w' => e = .returned (.int .i64 0) ∧ Drew w w' := by
  obtain ⟨x0, x1⟩ := hx
  have hm := and_16 x
  go_enter Tryd.func97, Tryd.ntmps97
  go_wp2
  go_ret
  exact ⟨rfl, Drew.refl _⟩
set_option maxHeartbeats 800000 in
theorem exp2_near (x : Int) (n : Nat) (t : Int) (w : World) (hB : Bend w) (hx : I64 x) (hn : x ≤ 0) (hq : x / 65536 = -(n : Int)) (hn' : n < 31) (ht : x % 65536 = t) :
    Calls Tryd.prog 97 #[.int .i64 x] w fun e w' => e = .returned (.int .i64 (polyC t / 2 ^ n)) ∧ Drew w w' := by
  obtain ⟨x0, x1⟩ := hx
  obtain ⟨hB0, hB1, hB2⟩ := hB
  have t0 : 0 ≤ t := by omega
  have t1 : t ≤ 65535 := by omega
  have hm := and_16 x
  rw [ht] at hm
  clear ht
  go_enter Tryd.func97, Tryd.ntmps97
  go_wp2
  go_loop [5, 16] (fun c i => ∃ k : Nat, k ≤ 3 ∧ i = .int .i64 k ∧ c = .int .i64 (bendC t k)) (fun _ i => 3 - (intOf i).toNat)
  case atStart => exact ⟨0, by omega, rfl, rfl⟩
  case round =>
    obtain ⟨k, hk, rfl, rfl⟩ := hrel
    match k, hk with
    | 0, _ =>
      rw [show bendC t 0 = 0 from rfl, show ((0 : Nat) : Int) = 0 from rfl]
      go_wp2
      go_round
      case rel => exact ⟨1, by omega, rfl, rfl⟩
      case measure => simp [intOf]
    | 1, _ =>
      rw [show bendC t 1 = 84941200 from rfl, show ((1 : Nat) : Int) = 1 from rfl]
      go_wp2
      go_round
      case rel => exact ⟨2, by omega, rfl, rfl⟩
      case measure => simp [intOf]
    | 2, _ =>
      rw [show bendC t 2 = polyA t from rfl, show ((2 : Nat) : Int) = 2 from rfl]
      obtain ⟨a0, a1⟩ := polyA_bound t0 t1
      obtain ⟨m0, m1⟩ := mul_bound a0 a1 t0 t1
      have HB : Hid (bendC t 3 = 747400624 + polyA t * t / 65536) := rfl
      generalize polyA t = A at *
      go_wp2
      go_round
      case rel => exact ⟨3, by omega, rfl, by rw [HB.out]⟩
      case measure => simp [intOf]
    | 3, _ =>
      rw [show bendC t 3 = polyB t from rfl, show ((3 : Nat) : Int) = 3 from rfl]
      obtain ⟨a0, a1⟩ := polyB_bound t0 t1
      obtain ⟨m0, m1⟩ := mul_bound a0 a1 t0 t1
      have HB : Hid (polyC t = 1073741824 + polyB t * t / 65536) := rfl
      generalize polyB t = B at *
      go_wp2
      go_ret
      exact ⟨ret_int (by rw [HB.out]), Drew.refl _⟩

set_option maxHeartbeats 800000 in
theorem exp2_over (x : Int) (w : World) (hB : Bend w) (hx : I64 x) (hn : 0 < x) :
    Calls Tryd.prog 97 #[.int .i64 x] w fun e w' => e = .returned (.int .i64 1073741824) ∧ Drew w w' := by
  obtain ⟨x0, x1⟩ := hx
  obtain ⟨hB0, hB1, hB2⟩ := hB
  have hm := and_16 0
  obtain ⟨t, ht⟩ : ∃ t : Int, t = 0 := ⟨0, rfl⟩
  have t0 : 0 ≤ t := by omega
  have t1 : t ≤ 65535 := by omega
  go_enter Tryd.func97, Tryd.ntmps97
  go_wp2
  subst ht
  go_loop [5, 16] (fun c i => ∃ k : Nat, k ≤ 3 ∧ i = .int .i64 k ∧ c = .int .i64 (bendC 0 k)) (fun _ i => 3 - (intOf i).toNat)
  case atStart => exact ⟨0, by omega, rfl, rfl⟩
  case round =>
    obtain ⟨k, hk, rfl, rfl⟩ := hrel
    match k, hk with
    | 0, _ =>
      rw [show bendC 0 0 = 0 from rfl, show ((0 : Nat) : Int) = 0 from rfl]
      go_wp2
      go_round
      case rel => exact ⟨1, by omega, rfl, rfl⟩
      case measure => simp [intOf]
    | 1, _ =>
      rw [show bendC 0 1 = 84941200 from rfl, show ((1 : Nat) : Int) = 1 from rfl]
      go_wp2
      go_round
      case rel => exact ⟨2, by omega, rfl, rfl⟩
      case measure => simp [intOf]
    | 2, _ =>
      rw [show bendC 0 2 = polyA 0 from rfl, show ((2 : Nat) : Int) = 2 from rfl]
      obtain ⟨a0, a1⟩ := polyA_bound t0 t1
      obtain ⟨m0, m1⟩ := mul_bound a0 a1 t0 t1
      have HB : Hid (bendC 0 3 = 747400624 + polyA 0 * 0 / 65536) := rfl
      generalize polyA 0 = A at *
      go_wp2
      go_round
      case rel => exact ⟨3, by omega, rfl, by rw [HB.out]; simp⟩
      case measure => simp [intOf]
    | 3, _ =>
      rw [show bendC 0 3 = polyB 0 from rfl, show ((3 : Nat) : Int) = 3 from rfl]
      obtain ⟨a0, a1⟩ := polyB_bound t0 t1
      obtain ⟨m0, m1⟩ := mul_bound a0 a1 t0 t1
      have HB : Hid (polyC 0 = 1073741824 + polyB 0 * 0 / 65536) := rfl
      generalize polyB 0 = B at *
      go_wp2
      go_ret
      exact ⟨rfl, Drew.refl _⟩

/-- Every Exp2. -/
theorem exp2_any (x : Int) (w : World) (hB : Bend w) (hx : I64 x) :
    Calls Tryd.prog 97 #[.int .i64 x] w fun e w' => e = .returned (.int .i64 (exp2 x)) ∧ Drew w w' := by
  unfold exp2
  rcases Int.lt_or_le 0 x with h | h
  · rw [show min x 0 = 0 by omega]
    exact exp2_over x w hB hx h
  · rw [show min x 0 = x by omega]
    by_cases hf : 31 ≤ -(x / 65536)
    · rw [if_pos hf]
      exact exp2_far x w hx h hf
    · rw [if_neg hf]
      have hq : x / 65536 = -(((-(x / 65536)).toNat : Nat) : Int) := by omega
      exact exp2_near x _ _ w hB hx h hq (by omega) rfl

theorem Bend.kept {S : Nat → Prop} {w w' : World} (h : Bend w) (hk : Kept S w w') (hn : ¬ S 1) : Bend w' := by
  have h0 := World.block_lt_of_cell? w _ h.1
  have e : ∀ i, w'.cell? ⟨1, i, none⟩ = w.cell? ⟨1, i, none⟩ := fun i => hk.cell (p := ⟨1, i, none⟩) h0 hn
  exact ⟨(e 0).trans h.1, (e 1).trans h.2.1, (e 2).trans h.2.2⟩
theorem Bend.fresh {w w' : World} (h : Bend w) (hk : Fresh w w') : Bend w' := h.kept hk (fun e => e)

end Go.Proofs.YtakiimjldccgcabDoor

/-
  Exp2 rises, and lies between 0 and 2^30.
-/
namespace Go.Proofs.YtakiimjldccgcabDoor
open Go.RowKit

theorem half_pow (c : Int) (j : Nat) : c / 2 ^ j / 2 = c / 2 ^ (j + 1) := by
  rw [Int.ediv_ediv_of_nonneg (by exact Int.le_of_lt (Int.pow_pos (by omega))), Int.pow_succ]
theorem half_pow' (c : Int) (j : Nat) : c / 2 / 2 ^ j = c / 2 ^ (j + 1) := by
  rw [Int.ediv_ediv_of_nonneg (by omega), Int.pow_succ, Int.mul_comm]
theorem pow_pos2 (j : Nat) : 0 < (2 : Int) ^ j := Int.pow_pos (by omega)

/-- Exp2 without its test for far numbers. -/
theorem exp2_eq (x : Int) (hx : x ≤ 0) : exp2 x = polyC (x % 65536) / 2 ^ (-(x / 65536)).toNat := by
  unfold exp2
  rw [show min x 0 = x by omega]
  by_cases h : 31 ≤ -(x / 65536)
  · rw [if_pos h]
    obtain ⟨c0, c1⟩ := polyC_bound (t := x % 65536) (by omega) (by omega)
    symm
    apply Int.ediv_eq_zero_of_lt (by omega)
    have : (2 : Int) ^ 31 ≤ 2 ^ (-(x / 65536)).toNat := by
      have h2 : 2 ^ 31 ≤ 2 ^ (-(x / 65536)).toNat := Nat.pow_le_pow_right (by omega) (by omega)
      have := Int.ofNat_le.2 h2
      simpa using this
    omega
  · rw [if_neg h]
theorem polyC_mono {s t : Int} (s0 : 0 ≤ s) (hst : s ≤ t) (t1 : t ≤ 65535) : polyC s ≤ polyC t := by
  have hA : polyA s ≤ polyA t := by unfold polyA; omega
  have hA0 := (polyA_bound s0 (by omega : s ≤ 65535)).1
  have hAt0 := (polyA_bound (by omega : 0 ≤ t) t1).1
  have hB : polyB s ≤ polyB t := by
    have := Int.mul_le_mul hA hst s0 hAt0
    unfold polyB
    omega
  have hBt0 := (polyB_bound (by omega : 0 ≤ t) t1).1
  have := Int.mul_le_mul hB hst s0 hBt0
  unfold polyC
  omega
theorem exp2_mono0 {x y : Int} (h : x ≤ y) (hy : y ≤ 0) : exp2 x ≤ exp2 y := by
  rw [exp2_eq x (by omega), exp2_eq y hy]
  obtain ⟨c0, c1⟩ := polyC_bound (t := x % 65536) (by omega) (by omega)
  obtain ⟨d0, d1⟩ := polyC_bound (t := y % 65536) (by omega) (by omega)
  by_cases e : x / 65536 = y / 65536
  · rw [e]
    exact Int.ediv_le_ediv (pow_pos2 _) (polyC_mono (by omega) (by omega) (by omega))
  · obtain ⟨k, hk⟩ : ∃ k : Nat, (-(x / 65536)).toNat = (-(y / 65536)).toNat + 1 + k := ⟨(-(x / 65536)).toNat - (-(y / 65536)).toNat - 1, by omega⟩
    rw [hk, Int.pow_add, ← Int.ediv_ediv_of_nonneg (Int.le_of_lt (pow_pos2 _)), ← half_pow']
    generalize polyC (x % 65536) = c at *
    generalize polyC (y % 65536) = d at *
    have h1 : c / 2 / 2 ^ (-(y / 65536)).toNat ≤ d / 2 ^ (-(y / 65536)).toNat := Int.ediv_le_ediv (pow_pos2 _) (by omega)
    have h2 : 0 ≤ c / 2 / 2 ^ (-(y / 65536)).toNat := Int.ediv_nonneg (by omega) (Int.le_of_lt (pow_pos2 _))
    exact Int.le_trans (Int.ediv_le_self _ h2) h1
theorem exp2_zero : exp2 0 = 1073741824 := by decide
theorem exp2_top {x : Int} (h : 0 ≤ x) : exp2 x = 1073741824 := by
  rw [← exp2_zero]
  unfold exp2
  rw [show min x 0 = 0 by omega, show min (0 : Int) 0 = 0 by omega]
theorem exp2_le (x : Int) : exp2 x ≤ 1073741824 := by
  rcases Int.lt_or_le 0 x with h | h
  · rw [exp2_top (by omega)]; omega
  · rw [← exp2_zero]; exact exp2_mono0 h (by omega)
theorem exp2_nonneg (x : Int) : 0 ≤ exp2 x := by
  rcases Int.lt_or_le 0 x with h | h
  · rw [exp2_top (by omega)]; omega
  · rw [exp2_eq x h]
    obtain ⟨c0, c1⟩ := polyC_bound (t := x % 65536) (by omega) (by omega)
    exact Int.ediv_nonneg (by omega) (Int.le_of_lt (pow_pos2 _))
theorem exp2_mono {x y : Int} (h : x ≤ y) : exp2 x ≤ exp2 y := by
  rcases Int.lt_or_le 0 y with k | k
  · rw [exp2_top (x := y) (by omega)]; exact exp2_le x
  · exact exp2_mono0 h k
theorem exp2_half {x : Int} (h : x ≤ 0) : exp2 (x - 65536) = exp2 x / 2 := by
  rw [exp2_eq x h, exp2_eq (x - 65536) (by omega), half_pow, show (x - 65536) % 65536 = x % 65536 by omega,
    show (-((x - 65536) / 65536)).toNat = (-(x / 65536)).toNat + 1 by omega]
theorem exp2_whole (n : Nat) : exp2 (-65536 * (n : Int)) = 1073741824 / 2 ^ n := by
  rw [exp2_eq _ (by omega), show -65536 * (n : Int) % 65536 = 0 by omega, show (-(-65536 * (n : Int) / 65536)).toNat = n by omega]
  rfl

end Go.Proofs.YtakiimjldccgcabDoor
