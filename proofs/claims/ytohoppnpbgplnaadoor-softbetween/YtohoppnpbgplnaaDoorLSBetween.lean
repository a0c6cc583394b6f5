/-
  For every list of weights and every list of numbers the statement SoftBetween answers true: awake does; Mean refuses as the document does; the mean is the nearest whole number, halves up, and lies between the least and the greatest that weigh something; its card, tied to the program's text.
-/
import Derived.Test.YtohoppnpbgplnaaDoorSfd
import Derived.Test.YtohoppnpbgplnaaDoorSfw
import Derived.Test.YtohoppnpbgplnaaDoorNof
namespace Go.Proofs.YtohoppnpbgplnaaDoor.SBetween
open Go.ChangeShapes Go.WideShapes Go.ChangeAt Go.RowKit Go.Lib Go.Maps

/-- The least and the greatest of what weighs something, among the first k. -/
def lowN (w v : List Int) : Nat → Int
  | 0 => 127
  | k + 1 => if 0 < w.getD k 0 ∧ v.getD k 0 < lowN w v k then v.getD k 0 else lowN w v k
def highN (w v : List Int) : Nat → Int
  | 0 => -128
  | k + 1 => if 0 < w.getD k 0 ∧ highN w v k < v.getD k 0 then v.getD k 0 else highN w v k
theorem low_step (w v : List Int) (k : Nat) : lowN w v (k + 1) ≤ lowN w v k ∧ (0 < w.getD k 0 → lowN w v (k + 1) ≤ v.getD k 0) := by
  have e : lowN w v (k + 1) = if 0 < w.getD k 0 ∧ v.getD k 0 < lowN w v k then v.getD k 0 else lowN w v k := rfl
  rw [e]
  split <;> constructor <;> intros <;> omega
theorem high_step (w v : List Int) (k : Nat) : highN w v k ≤ highN w v (k + 1) ∧ (0 < w.getD k 0 → v.getD k 0 ≤ highN w v (k + 1)) := by
  have e : highN w v (k + 1) = if 0 < w.getD k 0 ∧ highN w v k < v.getD k 0 then v.getD k 0 else highN w v k := rfl
  rw [e]
  split <;> constructor <;> intros <;> omega
theorem low_le (w v : List Int) (n i : Nat) : i < n → 0 < w.getD i 0 → lowN w v n ≤ v.getD i 0 := by
  induction n with
  | zero => intro h; omega
  | succ n ih =>
    intro h hw
    have hs := low_step w v n
    by_cases e : i = n
    · subst e; exact hs.2 hw
    · have := ih (by omega) hw; omega
theorem high_ge (w v : List Int) (n i : Nat) : i < n → 0 < w.getD i 0 → v.getD i 0 ≤ highN w v n := by
  induction n with
  | zero => intro h; omega
  | succ n ih =>
    intro h hw
    have hs := high_step w v n
    by_cases e : i = n
    · subst e; exact hs.2 hw
    · have := ih (by omega) hw; omega
theorem low_c8 {w v : List Int} (hv : ∀ i, C8 (v.getD i 0)) : ∀ n, C8 (lowN w v n)
  | 0 => ⟨by simp [lowN], by simp [lowN]⟩
  | n + 1 => by
    have h1 := low_c8 (w := w) hv n
    have h2 := hv n
    have e : lowN w v (n + 1) = if 0 < w.getD n 0 ∧ v.getD n 0 < lowN w v n then v.getD n 0 else lowN w v n := rfl
    rw [e]
    split
    · exact h2
    · exact h1
theorem high_c8 {w v : List Int} (hv : ∀ i, C8 (v.getD i 0)) : ∀ n, C8 (highN w v n)
  | 0 => ⟨by simp [highN], by simp [highN]⟩
  | n + 1 => by
    have h1 := high_c8 (w := w) hv n
    have h2 := hv n
    have e : highN w v (n + 1) = if 0 < w.getD n 0 ∧ highN w v n < v.getD n 0 then v.getD n 0 else highN w v n := rfl
    rw [e]
    split
    · exact h2
    · exact h1
theorem dt_above {w v : List Int} {L : Int} (h0 : ∀ i, 0 ≤ w.getD i 0) : ∀ n : Nat, (∀ i, i < n → 0 < w.getD i 0 → L ≤ v.getD i 0) → L * tot w n ≤ dt w v n
  | 0, _ => by simp [tot, dt]
  | n + 1, h => by
    have ih := dt_above h0 n (fun i hi => h i (by omega))
    have e1 : tot w (n + 1) = tot w n + w.getD n 0 := rfl
    have e2 : dt w v (n + 1) = dt w v n + w.getD n 0 * v.getD n 0 := rfl
    rw [e1, e2, Int.mul_add]
    have hm : L * w.getD n 0 ≤ w.getD n 0 * v.getD n 0 := by
      rw [Int.mul_comm L]
      by_cases hp : 0 < w.getD n 0
      · exact Int.mul_le_mul_of_nonneg_left (h n (by omega) hp) (h0 n)
      · have : w.getD n 0 = 0 := by have := h0 n; omega
        rw [this]; simp
    omega
theorem dt_below {w v : List Int} {L : Int} (h0 : ∀ i, 0 ≤ w.getD i 0) : ∀ n : Nat, (∀ i, i < n → 0 < w.getD i 0 → v.getD i 0 ≤ L) → dt w v n ≤ L * tot w n
  | 0, _ => by simp [tot, dt]
  | n + 1, h => by
    have ih := dt_below h0 n (fun i hi => h i (by omega))
    have e1 : tot w (n + 1) = tot w n + w.getD n 0 := rfl
    have e2 : dt w v (n + 1) = dt w v n + w.getD n 0 * v.getD n 0 := rfl
    rw [e1, e2, Int.mul_add]
    have hm : w.getD n 0 * v.getD n 0 ≤ L * w.getD n 0 := by
      rw [Int.mul_comm L]
      by_cases hp : 0 < w.getD n 0
      · exact Int.mul_le_mul_of_nonneg_left (h n (by omega) hp) (h0 n)
      · have : w.getD n 0 = 0 := by have := h0 n; omega
        rw [this]; simp
    omega
/-- What the statement holds of the mean. -/
theorem ends {ws vs : List Int} (h : meE ws vs.length = 0) (hv : ∀ i, C8 (vs.getD i 0)) :
    let m := meV ws vs; let n := ws.length
    C8 m ∧ lowN ws vs n ≤ m ∧ m ≤ highN ws vs n ∧ -(tot ws n) ≤ 2 * (dt ws vs n - m * tot ws n) ∧ 2 * (dt ws vs n - m * tot ws n) < tot ws n ∧ (-70368744177664 ≤ dt ws vs n ∧ dt ws vs n ≤ 70368744177664) ∧ (-140737488355328 ≤ m * tot ws n ∧ m * tot ws n ≤ 140737488355328) ∧ 0 ≤ tot ws n ∧ tot ws n ≤ 549755813888 := by
  intro m n
  obtain ⟨e1, e2, hO, hT⟩ := meE_zero h
  have hm : m = meF ws vs := meV_ok h
  have h0 := okW_get hO
  have ht := tot_i64 hO (n := n) (by omega)
  have hd := dt_bound h0 hv n
  have hpos : 0 < tot ws n := by have : tot ws n ≠ 0 := hT; omega
  have hc := meV_c8 ws vs hv
  obtain ⟨a, b⟩ := mean_between (lo := lowN ws vs n) (hi := highN ws vs n) hpos hm.symm (dt_above (fun i => (h0 i).1) n (fun i hi => low_le ws vs n i hi)) (dt_below (fun i => (h0 i).1) n (fun i hi => high_ge ws vs n i hi))
  obtain ⟨c, d⟩ := mean_div hpos hm.symm
  have c' : -(tot ws n) ≤ 2 * (dt ws vs n - m * tot ws n) := c
  have d' : 2 * (dt ws vs n - m * tot ws n) < tot ws n := d
  refine ⟨hc, a, b, c, d, by omega, by omega, by omega, by omega⟩

set_option maxHeartbeats 8000000 in
set_option maxRecDepth 100000 in
theorem walk (lv gv : Value) (ws vs : List Int) (w : World) (hB : Bend w) (hl : Rk .i64 (fun b => b < w.heap.size) w lv ws) (hg : Rk .i8 (fun b => b < w.heap.size) w gv vs) :
    Calls Tryd.prog 7 #[lv, gv] w fun e w' => e = .returned (.bool true) ∧ Fresh w w' := by
  have HL : Hid (∀ W, Fresh w W → Bend W ∧ Rk .i64 (fun b => b < w.heap.size) W lv ws ∧ Rk .i8 (fun b => b < w.heap.size) W gv vs) := fun W hF => ⟨hB.fresh hF, hl.fresh hF, hg.fresh hF⟩
  have H1 : Hid (Unit → _) := fun (_ : Unit) => Mean_any _ _ _ _ _ _ w hl hg
  have HV8 : Hid (∀ i, C8 (vs.getD i 0)) := fun i => hg.get i
  have HEnd : Hid (meE ws vs.length = 0 → _) := fun h => ends h HV8.out
  have HE0 : Hid (meE ws vs.length = 0 → ws.length = vs.length ∧ ws.length ≤ 512 ∧ okW ws = true) := fun h => by
    obtain ⟨a, b, c, _⟩ := meE_zero h
    exact ⟨a, by omega, c⟩
  obtain ⟨ao, ac, rfl, _⟩ := hl.shape
  obtain ⟨co, cc, rfl, _⟩ := hg.shape
  have HC1 : Hid _ := hl.stay
  have HC2 : Hid _ := hg.stay
  have hmany := hl.many
  clear hl hg hB
  go_enter Tryd.func7, Tryd.ntmps7
  go_wp2_with fail
  refine (H1.out ()).mono ?_
  rintro e w2 ⟨rfl, n2, hw2⟩
  have HF2 : Hid (Fresh w w2) := by show Fresh _ _; rw [hw2]; exact (Kept.refl _ _).drewN n2
  have H2 : Hid (Unit → _) := fun (_ : Unit) => refMean_any _ _ _ _ _ _ w2 (HL.out w2 HF2.out).2.1 (HL.out w2 HF2.out).2.2
  clear H1 hw2
  go_wp2_with fail
  refine (H2.out ()).mono ?_
  rintro e w3 ⟨rfl, n3, hw3⟩
  have HF3 : Hid (Fresh w w3) := by show Fresh _ _; rw [hw3]; exact HF2.out.drewN n3
  have HAW : Hid (Unit → _) := fun (_ : Unit) => awake_any w3 (HL.out w3 HF3.out).1
  clear H2 HF2 hw3 HL
  go_wp2_with fail
  refine (HAW.out ()).mono ?_
  rintro e w4 ⟨rfl, hF4⟩
  have HF4 : Hid (Fresh w w4) := HF3.out.trans hF4 (fun _ _ e => e)
  clear hF4 HF3 HAW
  by_cases h0 : meE ws vs.length = 0
  · obtain ⟨e1, e2, hO⟩ := HE0.out h0
    obtain ⟨⟨c0, c1⟩, b0, b1, b2, b3, ⟨b4, b5⟩, ⟨b6, b7⟩, b8, b9⟩ := HEnd.out h0
    have HD : Hid (∀ j, j < ws.length → ((0 ≤ tot ws j ∧ tot ws j ≤ 549755813888) ∧ -70368744177664 ≤ dt ws vs j ∧ dt ws vs j ≤ 70368744177664) ∧ (0 ≤ ws.getD j 0 ∧ ws.getD j 0 ≤ 1073741824) ∧ (-137438953472 ≤ ws.getD j 0 * vs.getD j 0 ∧ ws.getD j 0 * vs.getD j 0 ≤ 137438953472)) := fun j hj => by
      have h1 := dt_bound (okW_get hO) HV8.out j
      have h2 := tot_i64 hO (n := j) (by omega)
      have h3 := okW_get hO j
      have h4 := HV8.out j
      exact ⟨by omega, h3, mul_w h3.1 h3.2 h4.1 h4.2⟩
    rw [h0]
    rw [← e1] at HC2 ⊢
    have HB : Hid _ := And.intro b0 (And.intro b1 (And.intro b2 (And.intro b3 (And.intro b4 (And.intro b5 (And.intro b6 b7))))))
    have HB2 : Hid _ := And.intro b8 b9
    clear b0 b1 b2 b3 b4 b5 b6 b7 b8 b9 hO h0 e1 HE0 HEnd
    generalize meV ws vs = M at *
    generalize hn : ws.length = n at *
    clear hn
    go_wp2
    go_loopw [9, 10, 11, 12, 13] (fun lo hi sv av iv wr => ∃ j : Nat, j ≤ n ∧ iv = zV j ∧ lo = .int .i8 (lowN ws vs j) ∧ hi = .int .i8 (highN ws vs j) ∧ sv = zV (tot ws j) ∧ av = zV (dt ws vs j) ∧ Hid (Fresh w wr)) (fun _ _ _ _ iv _ => n - (RowKit.intOf iv).toNat)
    case atStart => exact ⟨0, Nat.zero_le _, rfl, rfl, rfl, rfl, rfl, HF4.out⟩
    case round =>
      obtain ⟨j, hj, rfl, rfl, rfl, rfl, rfl, HA⟩ := hrel
      by_cases hlt : j < n
      · obtain ⟨b, off, rfl, hcell⟩ := HC1.out (by omega)
        obtain ⟨b2, off2, rfl, hcell2⟩ := HC2.out (by omega)
        have g1 := hcell wr HA.out j hlt
        have g2 := hcell2 wr HA.out j hlt
        have hlt' : (j : Int) < (n : Int) := by omega
        obtain ⟨⟨⟨t0, t1⟩, d0, d1⟩, ⟨x0, x1⟩, m0, m1⟩ := HD.out j hlt
        obtain ⟨y0, y1⟩ := HV8.out j
        have HS1 : Hid (tot ws (j + 1) = tot ws j + ws.getD j 0) := rfl
        have HS2 : Hid (dt ws vs (j + 1) = dt ws vs j + ws.getD j 0 * vs.getD j 0) := rfl
        have HS3 : Hid (lowN ws vs (j + 1) = if 0 < ws.getD j 0 ∧ vs.getD j 0 < lowN ws vs j then vs.getD j 0 else lowN ws vs j) := rfl
        have HS4 : Hid (highN ws vs (j + 1) = if 0 < ws.getD j 0 ∧ highN ws vs j < vs.getD j 0 then vs.getD j 0 else highN ws vs j) := rfl
        have HFd : Hid (∀ q, Fresh w (wr.drewN q)) := fun q => HA.out.drewN q
        clear hcell hcell2 HC1 HC2 HD HV8 HB HB2 HA HF4 c0 c1
        generalize ws.getD j 0 = x at *
        generalize vs.getD j 0 = y at *
        generalize tot ws j = T at *
        generalize dt ws vs j = D at *
        generalize lowN ws vs j = L at *
        generalize highN ws vs j = H at *
        obtain ⟨P, hP⟩ : ∃ P, x * y = P := ⟨_, rfl⟩
        rw [hP] at m0 m1 HS2
        by_cases hx : 0 < x
        · by_cases hL : y < L
          · rw [if_pos ⟨hx, hL⟩] at HS3
            by_cases hH : H < y
            · rw [if_pos ⟨hx, hH⟩] at HS4
              go_wp2_with fail
              go_quiet (fail)
              go_wp2
              go_roundw
              case rel => exact ⟨j + 1, hlt, by go_num, by rw [HS3.out], by rw [HS4.out], by rw [HS1.out], by rw [HS2.out], HFd.out nq⟩
              case measure => simp [RowKit.intOf]; omega
            · rw [if_neg (by omega)] at HS4
              go_wp2_with fail
              go_quiet (fail)
              go_wp2
              go_roundw
              case rel => exact ⟨j + 1, hlt, by go_num, by rw [HS3.out], by rw [HS4.out], by rw [HS1.out], by rw [HS2.out], HFd.out nq⟩
              case measure => simp [RowKit.intOf]; omega
          · rw [if_neg (by omega)] at HS3
            by_cases hH : H < y
            · rw [if_pos ⟨hx, hH⟩] at HS4
              go_wp2_with fail
              go_quiet (fail)
              go_wp2
              go_roundw
              case rel => exact ⟨j + 1, hlt, by go_num, by rw [HS3.out], by rw [HS4.out], by rw [HS1.out], by rw [HS2.out], HFd.out nq⟩
              case measure => simp [RowKit.intOf]; omega
            · rw [if_neg (by omega)] at HS4
              go_wp2_with fail
              go_quiet (fail)
              go_wp2
              go_roundw
              case rel => exact ⟨j + 1, hlt, by go_num, by rw [HS3.out], by rw [HS4.out], by rw [HS1.out], by rw [HS2.out], HFd.out nq⟩
              case measure => simp [RowKit.intOf]; omega
        · rw [if_neg (by omega)] at HS3 HS4
          go_wp2_with fail
          go_quiet (fail)
          go_wp2
          go_roundw
          case rel => exact ⟨j + 1, hlt, by go_num, by rw [HS3.out], by rw [HS4.out], by rw [HS1.out], by rw [HS2.out], HFd.out nq⟩
          case measure => simp [RowKit.intOf]; omega
      · obtain rfl : j = n := by omega
        obtain ⟨b0, b1, b2, b3, b4, b5, b6, b7⟩ := HB.out
        obtain ⟨b8, b9⟩ := HB2.out
        clear HC1 HC2 HD HV8 HB HB2 HF4
        generalize tot ws j = T at *
        generalize dt ws vs j = D at *
        generalize lowN ws vs j = L at *
        generalize highN ws vs j = H at *
        obtain ⟨P, hP⟩ : ∃ P, M * T = P := ⟨_, rfl⟩
        rw [hP] at b2 b3 b6 b7
        go_wp2
        go_ret
        exact ⟨rfl, HA.out⟩
  · rw [meV_bad h0]
    have h0' : (meE ws vs.length == 0) = false := by simp [h0]
    clear HE0 HEnd HC1 HC2 HV8
    generalize meE ws vs.length = E at *
    go_wp2
    go_ret
    exact ⟨by simp, HF4.out⟩

set_option maxRecDepth 100000 in
theorem contract (H : Type) (enc : TypeId × Value → H) (W : World) (base : Nat) (args : Array Value) (ds gs : List (DataW H)) (before : List MemPlace)
    (hval : ∀ (j : Nat) t v, Tryd.f7.params[j]? = some t → args[j]? = some v → Value.okWide Tryd.prog W .any base t v)
    (hW : DataW.Whole enc Tryd.prog Tryd.f7.params.toList Rows.softBetweenSpec.vars false W args.toList ds gs before) 
    (hsz : (DataW.weightsEach Tryd.prog (Tryd.f7.params.toList ++ []) (ds ++ gs)).all (· ≤ reachBytes) = true) (hL : laidMetH Tryd.prog Rows.softBetweenRow.laid W) :
    Calls Tryd.prog 7 args W fun e W' => ∃ v, e = .returned v ∧ Rows.softBetweenSpec.post enc Tryd.prog Tryd.f7 false true false false W args v W' := by
  have hW' := hW
  obtain ⟨p, q, hA0, hV, rfl, hfz, hnd⟩ := hW
  have hA : DataW.TrodAll enc Tryd.prog W 0 (fun _ => true) true Tryd.f7.params.toList args.toList ds p := hA0
  rw [Tryd.params7] at hA hval hsz
  obtain ⟨rfl, rfl⟩ := trodVars_none hV
  obtain ⟨v0, v1, d0, d1, p0, p1, rfl, rfl, rfl, h0, h1⟩ := trodAll_two hA
  obtain ⟨zs, hz⟩ := arg64 (hval 0 22 v0 rfl rfl) h0 hsz (j := 0) rfl rfl
  obtain ⟨gs, hg⟩ := arg8 (hval 1 31 v1 rfl rfl) h1 hsz (j := 1) rfl rfl
  refine (walk v0 v1 zs gs W (bend_of_laid hL) hz hg).mono fun e W' ⟨he, hk⟩ => ?_
  subst he
  exact ⟨_, rfl, post_law rfl (by kernel_rfl) (by kernel_rfl) hW' rfl hk⟩

set_option maxRecDepth 100000 in
theorem laid_met (os : Os) : laidMet Tryd.prog Rows.softBetweenRow.laid ((layIn (World.holding Tryd.prog os ⟨#[], #[], []⟩)).forCall (fun _ _ => 0) ⟨#[], #[.slice none 0 0, .slice none 0 0], []⟩).memory :=
  laidMet_of_run' 8 (by kernel_rfl) (by kernel_rfl)
set_option maxRecDepth 100000 in
theorem reads (os : Os) {H : Type} (enc : TypeId × Value → H) : ∃ places, DataW.whole enc Tryd.prog ((layIn (World.holding Tryd.prog os ⟨#[], #[], []⟩)).forCall (fun _ _ => 0) ⟨#[], #[.slice none 0 0, .slice none 0 0], []⟩).memory Tryd.f7.params.toList Rows.softBetweenSpec.vars false (#[.slice none 0 0, .slice none 0 0] : Array Value).toList 8 = some ([.nil, .nil], [], places) :=
  ⟨[], by kernel_rfl⟩

set_option maxRecDepth 100000 in
theorem lifted (os : Os) (started : os.Started) (H : Type) (enc : TypeId × Value → H) (F : Stop.Interp) :
    ReturnsInHanded {} Tryd.checked os 7 .any ((OpenSpec.ofChange Rows.softBetweenSpec).preRow enc Tryd.prog Tryd.f7 Rows.softBetweenRow.domain false Rows.softBetweenRow.laid) (((OpenSpec.ofChange Rows.softBetweenSpec).at F).post enc Tryd.prog Tryd.f7 false true false false) := by
  obtain ⟨places, hx⟩ := reads os enc
  refine returnsInHanded_of_row (C := Tryd.checked) (s := OpenSpec.ofChange Rows.softBetweenSpec) Tryd.own started (by kernel_rfl) Tryd.func7
    (witness_row_at (enc := enc) (C := Tryd.checked) false (layIn (World.holding Tryd.prog os ⟨#[], #[], []⟩)) #[.slice none 0 0, .slice none 0 0] rfl (by kernel_rfl) (by kernel_rfl) (by kernel_rfl)
      (OpenSpec.preRow_of_cond 8 hx (by kernel_rfl) (fun k hk => by cases hk) (by kernel_rfl) (laid_met os))) ?_
  intro W base args ds gs before hval hW _ hc hsz hL _ _
  exact contract H enc W base args ds gs before hval hW hsz hL

theorem said : Rows.SoftBetweenSaid :=
  OpenClaim.holds_of_cond 7 Tryd.f7 rfl rfl rfl rfl rfl rfl rfl ⟨rfl, rfl, rfl, rfl, rfl⟩ rfl rfl rfl rfl rfl (by kernel_rfl) Tryd.func7 (by kernel_rfl)
    (of_decide_eq_true (by kernel_rfl)) (by unfold Func.isWrapper; first | (rw [if_pos (by decide +kernel)]; kernel_rfl) | (rw [if_neg (by decide +kernel)]; exact ⟨rfl, rfl⟩))
    (fun os started H enc _ F => by rw [OpenClaim.pre_eq_preRow]; exact lifted os started H enc F)

theorem plain (f : FuncId) (fn : Func) (hf : Tryd.pinned.checked.prog.funcNamed Rows.softBetweenRow.func = some f) (hfn : Tryd.pinned.checked.prog.funcs[f]? = some fn) :
    false = Tryd.pinned.checked.prog.looks [] ∧ ∀ (j : Nat) t, fn.params[j]? = some t → Tryd.pinned.checked.prog.wantsStandIn t = false := by
  obtain rfl : f = 7 := Option.some.inj ((show Tryd.prog.funcNamed Rows.softBetweenRow.func = some 7 by kernel_rfl).symm.trans hf) |>.symm
  obtain rfl : fn = Tryd.f7 := (Option.some.inj (Tryd.func7.symm.trans hfn)).symm
  refine ⟨by kernel_rfl, fun j t ht => ?_⟩
  have hall : (Tryd.f7.params.toList.all fun u => !Tryd.prog.wantsStandIn u) = true := by kernel_rfl
  exact (show Tryd.prog.wantsStandIn t = false by simpa using List.all_eq_true.1 hall t (Array.mem_toList_iff.2 (Array.mem_of_getElem? ht)))

theorem card : Rows.SoftBetweenCardSaid :=
  Claim7.holds_tied_plain_at .later [] _ _ _ _ said (fun _ h => by cases h) (by kernel_rfl) (fun _ h => by cases h) softBetween_row_tie rfl ⟨rfl, rfl⟩ (by kernel_rfl) rfl plain (by kernel_rfl)

end Go.Proofs.YtohoppnpbgplnaaDoor.SBetween
namespace Go.Proofs.YtohoppnpbgplnaaDoor
theorem softBetween_card : Rows.SoftBetweenCardSaid := SBetween.card
end Go.Proofs.YtohoppnpbgplnaaDoor
