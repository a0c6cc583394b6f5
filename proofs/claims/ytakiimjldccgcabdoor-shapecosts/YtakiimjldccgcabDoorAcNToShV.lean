/-
  Numbers of layer 12: the usual bends.
-/
import Derived.Test.YtakiimjldccgcabDoorRoeToSfm
import Derived.Test.YtakiimjldccgcabDoorFwnToRpN
import Derived.Test.YtakiimjldccgcabDoorVcaToMkL
import Derived.Test.YtakiimjldccgcabDoorFilToShA
import Derived.Lib.MinMax
import Derived.Maps.OwnSet
import Derived.Maps.OwnOps
import Derived.Test.YtakiimjldccgcabDoorShJToShN
import Derived.Test.YtakiimjldccgcabDoorShEToFwr
import Derived.Test.YtakiimjldccgcabDoorShDToShG
namespace Go.Proofs.YtakiimjldccgcabDoor
open Go.RowKit

/-- How much of a number from 0 on BendSoft lets through. -/
def opP (x : Int) : Int := 68719476736 / (1073741824 + exp2 (-8192 * x))
theorem opP_bound (x : Int) : 32 ≤ opP x ∧ opP x ≤ 64 := by
  have h0 := exp2_nonneg (-8192 * x)
  have h1 := exp2_le (-8192 * x)
  unfold opP
  generalize exp2 (-8192 * x) = e at *
  constructor
  · exact Int.le_ediv_of_mul_le (by omega) (by omega)
  · exact Int.lt_add_one_iff.1 (Int.ediv_lt_of_lt_mul (by omega) (by omega))
def opn (x : Int) : Int := if x < 0 then 64 - opP (-x) else opP x
theorem opn_bound (x : Int) : 0 ≤ opn x ∧ opn x ≤ 64 := by
  have h1 := opP_bound x
  have h2 := opP_bound (-x)
  unfold opn
  split <;> omega
theorem mul_opn {x : Int} (h : C8 x) : -8192 ≤ x * opn x ∧ x * opn x ≤ 8192 := by
  obtain ⟨o0, o1⟩ := opn_bound x
  obtain ⟨x0, x1⟩ := h
  rcases Int.lt_or_le x 0 with e | e
  · have := mul_bound (a := -x) (t := opn x) (A := 128) (T := 64) (by omega) (by omega) o0 o1
    rw [Int.neg_mul] at this
    omega
  · have := mul_bound (a := x) (t := opn x) (A := 128) (T := 64) (by omega) (by omega) o0 o1
    omega
theorem mul_max {x : Int} (h : C8 x) : 0 ≤ x * max x 0 ∧ x * max x 0 ≤ 16384 := by
  obtain ⟨x0, x1⟩ := h
  rcases Int.lt_or_le x 0 with e | e
  · rw [show max x 0 = 0 by omega, Int.mul_zero]
    omega
  · rw [show max x 0 = x by omega]
    have := mul_bound (a := x) (t := x) (A := 128) (T := 128) e (by omega) e (by omega)
    omega
/-- What the usual bend of a kind makes of a number. -/
def bnt (k x : Int) : Int := if k = 1 then max x 0 else if k = 2 then clamp (rdQ (x * opn x) 6) (-127) 127 else clamp (rdQ (x * max x 0) 7) (-127) 127
theorem bnt_cut (x : Int) : bnt 1 x = max x 0 := rfl
theorem bnt_soft (x : Int) : bnt 2 x = clamp (rdQ (x * opn x) 6) (-127) 127 := rfl
theorem bnt_square (x : Int) : bnt 3 x = clamp (rdQ (x * max x 0) 7) (-127) 127 := rfl
theorem bnt_c8 {k x : Int} (h : C8 x) : C8 (bnt k x) := by
  obtain ⟨x0, x1⟩ := h
  have h1 := clamp_bound (rdQ (x * opn x) 6)
  have h2 := clamp_bound (rdQ (x * max x 0) 7)
  unfold bnt C8
  split
  · omega
  · split <;> omega
/-- The number that has a place in a bend. -/
def at8 (i : Nat) : Int := if i ≤ 127 then (i : Int) else (i : Int) - 256
theorem at8_c8 {i : Nat} (h : i < 256) : C8 (at8 i) := by unfold at8 C8; split <;> omega
def tbE (k : Int) : Int := if 1 ≤ k ∧ k ≤ 3 then 0 else 121
def tbF (k : Int) (i : Nat) : Int := bnt k (at8 i)
def tbL (k : Int) : List Int := if tbE k = 0 then mkL 256 (tbF k) else []
theorem tbE_ok {k : Int} (h : 1 ≤ k ∧ k ≤ 3) : tbE k = 0 := if_pos h
theorem tbE_bad {k : Int} (h : ¬ (1 ≤ k ∧ k ≤ 3)) : tbE k = 121 := if_neg h
theorem tbL_ok {k : Int} (h : 1 ≤ k ∧ k ≤ 3) : tbL k = mkL 256 (tbF k) := if_pos (tbE_ok h)
theorem tbL_bad {k : Int} (h : ¬ (1 ≤ k ∧ k ≤ 3)) : tbL k = [] := if_neg (by rw [tbE_bad h]; decide)
theorem tbL_c8 (k : Int) : ∀ z ∈ tbL k, C8 z := by
  intro z hz
  by_cases h : 1 ≤ k ∧ k ≤ 3
  · rw [tbL_ok h] at hz
    obtain ⟨i, hi, rfl⟩ := mkL_mem hz
    exact bnt_c8 (at8_c8 hi)
  · rw [tbL_bad h] at hz
    cases hz
theorem tbL_len (k : Int) : (tbL k).length ≤ 256 := by
  by_cases h : 1 ≤ k ∧ k ≤ 3
  · rw [tbL_ok h, mkL_len]
    exact Nat.le_refl _
  · rw [tbL_bad h]
    simp
end Go.Proofs.YtakiimjldccgcabDoor

/-
  The usual bends, the package's: what each makes of a number, the table of them, Table.
-/
namespace Go.Proofs.YtakiimjldccgcabDoor
open Go.RowKit Go.Lib Go.Maps

set_option maxHeartbeats 1000000 in
theorem rounded_any (n s : Int) (w : World) (hn : I64 n) : Calls Tryd.prog 84 #[zV n, zV s] w fun e w' => e = .returned (.int .i8 (clamp (rdQ n s) (-127) 127)) ∧ Drew w w' := by
  have HR : Hid (Unit → _) := fun (_ : Unit) => round_any n s w hn
  have HN : Hid (∀ x W, _) := fun x W => narrow_any x W
  generalize rdQ n s = q at *
  generalize rdE s = E at *
  generalize hc : clamp q (-127) 127 = c at *
  go_enter Tryd.func84, Tryd.ntmps84
  go_wp2_with fail
  refine (HR.out ()).mono ?_
  rintro e w1 ⟨rfl, hw1⟩
  have HD : Hid (Drew w w1) := hw1
  clear hw1 HR
  go_wp2_with fail
  refine (HN.out q w1).mono ?_
  rintro e w2 ⟨rfl, hw2⟩
  have HD2 : Hid (Drew w w2) := HD.out.trans hw2
  rw [hc]
  clear hw2 HN HD
  go_wp2
  go_ret
  exact ⟨rfl, HD2.out⟩

set_option maxHeartbeats 1000000 in
theorem opening_up (x : Int) (w : World) (hB : Bend w) (hx : 0 ≤ x ∧ x ≤ 128) : Calls Tryd.prog 85 #[zV x] w fun e w' => e = .returned (zV (opP x)) ∧ Drew w w' := by
  have HX : Hid (Unit → _) := fun (_ : Unit) => exp2_any (-8192 * x) w hB ⟨by omega, by omega⟩
  have h0 := exp2_nonneg (-8192 * x)
  have h1 := exp2_le (-8192 * x)
  have hb := opP_bound x
  unfold opP at hb ⊢
  clear hB
  obtain ⟨x0, x1⟩ := hx
  have hx0 : ¬ x < 0 := by omega
  generalize exp2 (-8192 * x) = e at *
  have hd : (68719476736 : Int).tdiv (1073741824 + e) = 68719476736 / (1073741824 + e) := Int.tdiv_eq_ediv_of_nonneg (by omega)
  have hd0 : ¬ (1073741824 + e) = 0 := by omega
  go_enter Tryd.func85, Tryd.ntmps85
  go_wp2_with fail
  refine (HX.out ()).mono ?_
  rintro e w1 ⟨rfl, hw1⟩
  clear HX
  go_wp2
  go_ret
  exact ⟨rfl, hw1⟩

set_option maxHeartbeats 1000000 in
theorem opening_any (x : Int) (w : World) (hB : Bend w) (hx : C8 x) : Calls Tryd.prog 85 #[zV x] w fun e w' => e = .returned (zV (opn x)) ∧ Drew w w' := by
  obtain ⟨x0, x1⟩ := hx
  unfold opn
  by_cases h : x < 0
  · rw [if_pos h]
    have HX : Hid (Unit → _) := fun (_ : Unit) => opening_up (-x) w hB ⟨by omega, by omega⟩
    have hb := opP_bound (-x)
    clear hB
    generalize opP (-x) = o at *
    go_enter Tryd.func85, Tryd.ntmps85
    go_wp2_with fail
    refine (HX.out ()).mono ?_
    rintro e w1 ⟨rfl, hw1⟩
    clear HX
    go_wp2
    go_ret
    exact ⟨rfl, hw1⟩
  · rw [if_neg h]
    exact opening_up x w hB ⟨by omega, by omega⟩

set_option maxHeartbeats 1000000 in
theorem cut_any (x : Int) (w : World) (hx : C8 x) : Calls Tryd.prog 82 #[zV x] w fun e w' => e = .returned (.int .i8 (bnt 1 x)) ∧ Drew w w' := by
  obtain ⟨x0, x1⟩ := hx
  rw [bnt_cut]
  have h0 : 0 ≤ max x 0 := by omega
  have h1 : max x 0 ≤ 127 := by omega
  have hm : max x 0 = x ∨ max x 0 = 0 := by omega
  go_enter Tryd.func82, Tryd.ntmps82
  go_wp2
  go_ret
  exact ⟨rfl, Drew.refl _⟩

set_option maxHeartbeats 1000000 in
theorem soft_any (x : Int) (w : World) (hB : Bend w) (hx : C8 x) : Calls Tryd.prog 83 #[zV x] w fun e w' => e = .returned (.int .i8 (bnt 2 x)) ∧ Drew w w' := by
  have HO : Hid (Unit → _) := fun (_ : Unit) => opening_any x w hB hx
  obtain ⟨m0, m1⟩ := mul_opn hx
  have HR : Hid (∀ W, _) := fun W => rounded_any (x * opn x) 6 W ⟨by omega, by omega⟩
  rw [bnt_soft]
  clear hB
  generalize opn x = o at *
  generalize clamp (rdQ (x * o) 6) (-127) 127 = z at *
  obtain ⟨x0, x1⟩ := hx
  go_enter Tryd.func83, Tryd.ntmps83
  go_wp2_with fail
  refine (HO.out ()).mono ?_
  rintro e w1 ⟨rfl, hw1⟩
  have HD : Hid (Drew w w1) := hw1
  clear hw1 HO
  go_wp2_with fail
  refine (HR.out w1).mono ?_
  rintro e w2 ⟨rfl, hw2⟩
  have HD2 : Hid (Drew w w2) := HD.out.trans hw2
  clear hw2 HR HD
  go_wp2
  go_ret
  exact ⟨rfl, HD2.out⟩

set_option maxHeartbeats 1000000 in
theorem square_any (x : Int) (w : World) (hx : C8 x) : Calls Tryd.prog 86 #[zV x] w fun e w' => e = .returned (.int .i8 (bnt 3 x)) ∧ Drew w w' := by
  obtain ⟨m0, m1⟩ := mul_max hx
  have HR : Hid (∀ W, _) := fun W => rounded_any (x * max x 0) 7 W ⟨by omega, by omega⟩
  rw [bnt_square]
  generalize clamp (rdQ (x * max x 0) 7) (-127) 127 = z at *
  obtain ⟨x0, x1⟩ := hx
  go_enter Tryd.func86, Tryd.ntmps86
  go_wp2_with fail
  refine (HR.out w).mono ?_
  rintro e w2 ⟨rfl, hw2⟩
  have HD2 : Hid (Drew w w2) := hw2
  clear hw2 HR
  go_wp2
  go_ret
  exact ⟨rfl, HD2.out⟩

theorem mlaw : Keyed Tryd.prog 3 := int_keyed Tryd.underlying3
/-- How a function reads: by its number. -/
def rdF : Value → Option (DataW Unit × List MemPlace)
  | .nilFunc => some (.lit (.int .i64 (-1)), [])
  | .func (.func f) a b => if a = #[] ∧ b = #[] then some (.lit (.int .i64 (f : Int)), []) else none
  | _ => none
theorem rdF_inv {v : Value} {f : Nat} {ps : List MemPlace} (h : rdF v = some (.lit (.int .i64 (f : Int)), ps)) : v = .func (.func f) #[] #[] := by
  unfold rdF at h
  split at h
  · simp at h
  · rename_i g a b
    split at h
    · rename_i hab
      simp at h
      rw [show g = f from Int.ofNat_inj.1 h.1, hab.1, hab.2]
    · cases h
  · cases h
def bendsD : DataW Unit := (((DataW.map []).put (.int .i64 1) (.lit (.int .i64 82))).put (.int .i64 2) (.lit (.int .i64 83))).put (.int .i64 3) (.lit (.int .i64 86))
/-- In block M lies the table of the usual bends. -/
def BendsAt (w : World) (M : Nat) : Prop := w.ownsMap Tryd.prog 3 rdF M 3 bendsD
def bendOf (k : Int) : Nat := if k = 1 then 82 else if k = 2 then 83 else 86
theorem acWf64 {z : Int} (h1 : -9223372036854775808 ≤ z) (h2 : z ≤ 9223372036854775807) : (Lit.int .i64 z).wf = true := by
  simp [Lit.wf, IntKind.min, IntKind.max, IntKind.signed, IntKind.bits]
  omega
theorem rdF_fn (f : Nat) : rdF (.func (.func f) #[] #[]) = some (.lit (.int .i64 (f : Int)), []) := by simp [rdF]

set_option maxHeartbeats 1000000 in
theorem bends_any (w : World) : Calls Tryd.prog 68 #[] w fun e w' => ∃ M, e = .returned (.map (some M)) ∧ BendsAt w' M ∧ Fresh w w' := by
  have h0 : (w.alloc (.map #[] 0)).ownsMap Tryd.prog 3 rdF w.heap.size 0 (.map []) := World.ownsMap_made w _ _ _
  obtain ⟨w1, r1, o1, g1⟩ := h0.update mlaw Tryd.underlying142 (by unfold maxLen; omega) (keyOf_int_mk Tryd.underlying3 (acWf64 (z := 1) (by omega) (by omega))) (rdF_fn 82)
  obtain ⟨w2, r2, o2, g2⟩ := o1.update mlaw Tryd.underlying142 (by unfold maxLen; omega) (keyOf_int_mk Tryd.underlying3 (acWf64 (z := 2) (by omega) (by omega))) (rdF_fn 83)
  obtain ⟨w3, r3, o3, g3⟩ := o2.update mlaw Tryd.underlying142 (by unfold maxLen; omega) (keyOf_int_mk Tryd.underlying3 (acWf64 (z := 3) (by omega) (by omega))) (rdF_fn 86)
  have hF : Fresh w w3 := ((((Kept.refl (fun _ => False) w).alloc _).grown g1 (fun k hk e => by cases e; omega)).grown g2 (fun k hk e => by cases e; omega)).grown g3 (fun k hk e => by cases e; omega)
  have HX : Hid (BendsAt w3 w.heap.size ∧ Fresh w w3) := ⟨o3, hF⟩
  have hmm := @run_makeMap Tryd.prog
  clear h0 o1 o2 o3 g1 g2 g3 hF
  go_enter Tryd.func68, Tryd.ntmps68
  go_wp2
  go_ret
  exact ⟨_, rfl, HX.out⟩
theorem Tryd.zeroFn (w : World) : (zeroValue 140).run Tryd.prog w = .ok .nilFunc w := by
  simp [go_sem]
theorem BendsAt.none {w : World} {M : Nat} (h : BendsAt w M) {z : Int} (hz : I64 z) (hk : ¬ (1 ≤ z ∧ z ≤ 3)) :
    (Instr.lookup 142 (.map (some M)) (.int .i64 z) true).run Tryd.prog w = .ok (.tuple #[.nilFunc, .bool false]) w := by
  obtain ⟨es, clock, hb, F, _, hD⟩ := h
  rcases Maps.fit_look true mlaw Tryd.underlying142 (Tryd.zeroFn w) hb F (keyOf_int_mk Tryd.underlying3 (acWf64 hz.1 hz.2)) with ⟨hrun, _, _⟩ | ⟨e0, y, _, _, hrun, _, hat, _⟩
  · exact hrun
  · exfalso
    rw [← hD] at hat
    have e1 : ∀ zd, bendsD.atKey (.int .i64 z) zd = zd := fun zd => by
      unfold bendsD
      rw [atKey_put_other (fun h => by simp at h; omega), atKey_put_other (fun h => by simp at h; omega), atKey_put_other (fun h => by simp at h; omega)]
      rfl
    have e2 := (e1 (.lit (.int .i64 0))).symm.trans ((hat _).trans ((hat _).symm.trans (e1 (.lit (.int .i64 1)))))
    simp at e2
theorem BendsAt.some {w : World} {M : Nat} (h : BendsAt w M) {z : Int} (hk : 1 ≤ z ∧ z ≤ 3) :
    (Instr.lookup 142 (.map (some M)) (.int .i64 z) true).run Tryd.prog w = .ok (.tuple #[.func (.func (bendOf z)) #[] #[], .bool true]) w := by
  obtain ⟨es, clock, hb, F, _, hD⟩ := h
  have e1 : ∀ zd, bendsD.atKey (.int .i64 z) zd = .lit (.int .i64 (bendOf z : Nat)) := fun zd => by
    have hc : z = 1 ∨ z = 2 ∨ z = 3 := by omega
    rcases hc with rfl | rfl | rfl <;> rfl
  rcases Maps.fit_look true mlaw Tryd.underlying142 (Tryd.zeroFn w) hb F (keyOf_int_mk Tryd.underlying3 (acWf64 (z := z) (by omega) (by omega))) with ⟨hrun, _, hat⟩ | ⟨e0, y, _, _, hrun, hR, hat, _⟩
  · exfalso
    rw [← hD] at hat
    have e2 := (hat (.lit (.bool true))).symm.trans (e1 _)
    simp at e2
  · rw [← hD] at hat
    have e2 := (hat (.lit (.bool true))).symm.trans (e1 _)
    obtain ⟨y1, y2⟩ := y
    simp only at e2
    rw [e2] at hR
    rw [hrun, rdF_inv hR]
    rfl
theorem bend_enter (z : Int) (args : Array Value) (X : World) : (callFunc (bendOf z) args).run Tryd.prog X = .ok (.enter (bendOf z) args) X := by
  unfold bendOf
  split
  · simp [go_sem]
  · split <;> simp [go_sem]
theorem bend_any (z x : Int) (w : World) (hz : 1 ≤ z ∧ z ≤ 3) (hB : Bend w) (hx : C8 x) : Calls Tryd.prog (bendOf z) #[zV x] w fun e w' => e = .returned (.int .i8 (bnt z x)) ∧ Drew w w' := by
  have hc : z = 1 ∨ z = 2 ∨ z = 3 := by omega
  rcases hc with rfl | rfl | rfl
  · exact cut_any x w hx
  · exact soft_any x w hB hx
  · exact square_any x w hx

set_option maxHeartbeats 1000000 in
set_option maxRecDepth 100000 in
theorem Table_any (k : Int) (w : World) (hB : Bend w) (hk : I64 k) : Calls Tryd.prog 48 #[zV k] w fun e w' => Gives .i8 68 (tbL k) (tbE k) w e w' := by
  have HM : Hid (Unit → _) := fun (_ : Unit) => bends_any w
  by_cases h : 1 ≤ k ∧ k ≤ 3
  · rw [tbE_ok h, tbL_ok h]
    have HF : Hid (∀ i, i < 256 → ∀ W, Bend W → Calls Tryd.prog (bendOf k) #[zV (at8 i)] W fun e w' => e = .returned (.int .i8 (tbF k i)) ∧ Drew W w') := fun i hi W hW => bend_any k (at8 i) W h hW (at8_c8 hi)
    have hE := bend_enter k
    have HL : Hid (∀ W M, BendsAt W M → _) := fun W M hM => BendsAt.some (w := W) (M := M) hM h
    have HB : Hid (Bend w) := hB
    generalize bendOf k = F at *
    clear hB h
    go_enter Tryd.func48, Tryd.ntmps48
    go_wp2_with fail
    refine (HM.out ()).mono ?_
    rintro e w1 ⟨M, rfl, hM, hF1⟩
    have hl := HL.out w1 M hM
    obtain ⟨n, hn⟩ : ∃ n : Nat, n = 256 := ⟨_, rfl⟩
    have hn' : ((n : Nat) : Int) = 256 := by omega
    have hmk := run_mk ty8 n n (Nat.le_refl _) (by simp [kb]; omega) w1
    rw [hn'] at hmk
    have HFil : Hid _ := Fil.start (k := .i8) (e := 68) w1 n (tbF k) (by omega)
    have HF1 : Hid (Fresh w w1 ∧ Bend w1) := ⟨hF1, Bend.fresh HB.out hF1⟩
    clear hM hF1 HM HL HB
    generalize w1.alloc (.cells ((List.replicate n (0 : Int)).map (Value.int .i8)).toArray 68) = W0 at *
    go_wp2
    clear hmk hl
    go_loopw [20] (fun iv wr => ∃ j : Nat, j ≤ n ∧ iv = zV j ∧ Hid (Fil .i8 68 w1 n (tbF k) j wr)) (fun iv _ => n - (RowKit.intOf iv).toNat)
    case atStart => exact ⟨0, Nat.zero_le _, rfl, HFil.out⟩
    case round =>
      obtain ⟨j, hj, rfl, HA⟩ := hrel
      clear HFil
      by_cases hlt : j < n
      · have hlt' : (j : Int) < (n : Int) := by omega
        have hc8 := at8_c8 (i := j) (by omega)
        have hcv : IntKind.i8.wrap (j : Int) = at8 j := by
          unfold at8
          split <;> (simp [IntKind.wrap, IntKind.bits, IntKind.signed]; omega)
        have HCall : Hid (∀ W, Drew wr W → _) := fun W hW => HF.out j (by omega) W (Bend.fresh HF1.out.2 (HA.out.2.trans hW.fresh (fun _ _ e => e)))
        obtain ⟨c0, c1⟩ := hc8
        generalize at8 j = x at *
        clear HF HF1
        go_wp2_with fail
        refine (HCall.out _ (Drew.refl _)).mono ?_
        rintro e w3 ⟨rfl, d3, hw3⟩
        have h3 : Fil .i8 68 w1 n (tbF k) j w3 := by rw [hw3]; exact HA.out.drew d3
        have f3 := own_frozen h3.1 j
        have g3 := own_get h3.1 j hlt
        have HX : Hid _ := h3.next hlt
        clear h3 HA HCall hw3
        go_wp2
        go_roundw
        case rel => exact ⟨j + 1, hlt, by go_num, HX.out⟩
        case measure => simp [RowKit.intOf]; omega
      · obtain rfl : j = n := by omega
        have HX : Hid (Gives .i8 68 (mkL 256 (tbF k)) 0 w (.returned (.tuple #[.slice (some ⟨w1.heap.size, 0, none⟩) 256 256, zV 0])) wr) := by
          have := HA.out.done 0
          rw [hn] at this
          exact this.from HF1.out.1
        clear HA HF HF1
        go_wp2
        go_ret2
        exact HX.out
  · rw [tbE_bad h, tbL_bad h]
    have HL : Hid (∀ W M, BendsAt W M → _) := fun W M hM => BendsAt.none (w := W) (M := M) hM hk h
    clear hB h
    go_enter Tryd.func48, Tryd.ntmps48
    go_wp2_with fail
    refine (HM.out ()).mono ?_
    rintro e w1 ⟨M, rfl, hM, hF1⟩
    have hl := HL.out w1 M hM
    have HX : Hid (Gives .i8 68 [] 121 w (.returned (.tuple #[.slice none 0 0, zV 121])) w1) := ⟨_, rfl, own_nil _ _ _, hF1⟩
    clear hM hF1 HM HL
    go_wp2
    go_ret2
    exact HX.out
end Go.Proofs.YtakiimjldccgcabDoor

/-
  A sample of a shape: what holds on its way.
-/
namespace Go.Proofs.YtakiimjldccgcabDoor
open Go.RowKit Go.Lib Go.Maps

/-- A model's cells that nothing is in yet. -/
def mdl0 : Array Value := #[zV 0, zV 0, zV 0, zV 0, zV 0, zV 0, nil8, nil8, nil8, zV 0, nil8, nil8, nil8, nil8, nil8, nil8, zV 0]
/-- What holds while a sample is made. -/
structure Sa (w X : World) (SV SZ : Array Value) (q7 q8 st : Nat) : Prop where
  fr : Fresh w X
  bx : X.heap[w.heap.size]? = some (.cells SV 23 (0, 0))
  rs : X.heap[w.heap.size + 1]? = some (.cells mdl0 48 (0, 0))
  sz : X.heap[q7]? = some (.cells SZ 81 (0, 0))
  gn : GnAt X q8 st
  n7 : w.heap.size + 1 < q7
  n8 : w.heap.size + 1 < q8
  ne : q7 ≠ q8
theorem Sa.kept {S : Nat → Prop} {w X Y : World} {SV SZ : Array Value} {q7 q8 st : Nat} (h : Sa w X SV SZ q7 q8 st) (hk : Kept S X Y) (hS : ∀ b, S b → w.heap.size + 1 < b ∧ b ≠ q7 ∧ b ≠ q8) : Sa w Y SV SZ q7 q8 st :=
  ⟨h.fr.trans hk (fun i hi e => by have := (hS i e).1; omega), hk.at h.bx (fun e => by have := (hS _ e).1; omega), hk.at h.rs (fun e => by have := (hS _ e).1; omega), hk.at h.sz (fun e => (hS _ e).2.1 rfl), h.gn.kept hk (fun e => (hS _ e).2.2 rfl), h.n7, h.n8, h.ne⟩
theorem Sa.next {w X Y : World} {SV SZ : Array Value} {q7 q8 st : Nat} (h : Sa w X SV SZ q7 q8 st) (hk : Fresh X Y) : Sa w Y SV SZ q7 q8 st := h.kept hk (fun _ e => e.elim)
theorem Sa.gen {w X Y : World} {SV SZ : Array Value} {q7 q8 st st' : Nat} (h : Sa w X SV SZ q7 q8 st) (hk : Kept (fun b => b = q8) X Y) (hg : GnAt Y q8 st') : Sa w Y SV SZ q7 q8 st' := by
  have h8 := h.n8
  have hn := h.ne
  exact ⟨h.fr.trans hk (fun i hi e => by have e' : i = q8 := e; omega), hk.at h.bx (fun e => by have e' : w.heap.size = q8 := e; omega), hk.at h.rs (fun e => by have e' : w.heap.size + 1 = q8 := e; omega), hk.at h.sz (fun e => by have e' : q7 = q8 := e; omega), hg, h.n7, h.n8, h.ne⟩
theorem Sa.shp {w X : World} {SV SZ : Array Value} {q7 q8 st : Nat} (h : Sa w X SV SZ q7 q8 st) (hs : SV.size = 6) : (loadVar 23 ⟨w.heap.size, 0, none⟩).run Tryd.prog X = .ok (.agg SV) X :=
  run_loadVar_row X w.heap.size 23 23 SV _ _ h.bx Tryd.underlying23 rfl (by rw [hs]; exact shpSize)
theorem mdl0_get {i : Nat} {v : Value} (h : mdl0[i]? = some v) : v = zV 0 ∨ v = nil8 := by
  have hm : v ∈ mdl0 := Array.mem_of_getElem? h
  have hm' : v = zV 0 ∨ v = nil8 ∨ v = zV 0 ∨ v = nil8 ∨ v = zV 0 := by simpa [mdl0] using hm
  rcases hm' with h | h | h | h | h
  · exact .inl h
  · exact .inr h
  · exact .inl h
  · exact .inr h
  · exact .inl h
theorem cell0 {X : World} {b9 i : Nat} {v : Value} (hb : X.heap[b9]? = some (.cells mdl0 48 (0, 0))) (h : X.cell? ⟨b9, i, none⟩ = some v) : v = zV 0 ∨ v = nil8 := by
  rw [Lib.cell_of_heap hb] at h
  exact mdl0_get h
/-- What lies in memory lies in no model that is empty. -/
theorem tx_ne {p : Nat → Prop} {X : World} {v : Value} {T : List (List UInt8)} {b9 : Nat} (h : TxR p X v T) (hb : X.heap[b9]? = some (.cells mdl0 48 (0, 0))) : TxR (fun b => p b ∧ b ≠ b9) X v T := by
  obtain ⟨ao, cap, h1, h2, h3, h4, h6, h5⟩ := h
  refine ⟨ao, cap, h1, h2, h3, h4, h6, fun h0 => ?_⟩
  obtain ⟨b, off, ha, hp, hs, hc⟩ := h5 h0
  refine ⟨b, off, ha, ⟨hp, fun e => ?_⟩, hs, hc⟩
  have := hc 0 h0
  rw [e] at this
  rcases cell0 hb this with e | e <;> cases e
theorem mg_ne {p : Nat → Prop} {X : World} {v : Value} {M : List Mg} {b9 : Nat} (h : MgR p X v M) (hM : 0 < M.length → (gM M 0).l ≠ 0) (hb : X.heap[b9]? = some (.cells mdl0 48 (0, 0))) : MgR (fun b => p b ∧ b ≠ b9) X v M := by
  obtain ⟨ao, cap, h1, h2, h3, h4, h5⟩ := h
  refine ⟨ao, cap, h1, h2, h3, h4, fun h0 => ?_⟩
  obtain ⟨b, off, ha, hp, hs, hc⟩ := h5 h0
  refine ⟨b, off, ha, ⟨hp, fun e => ?_⟩, hs, hc⟩
  have := (hc 0 h0).1
  rw [e] at this
  rcases cell0 hb this with e | e
  · injection e with _ e
    exact hM h0 e
  · cases e
theorem rk_ne {p : Nat → Prop} {X : World} {v : Value} {zs : List Int} {b9 : Nat} (h : Rk .i8 p X v zs) (hb : X.heap[b9]? = some (.cells mdl0 48 (0, 0))) : Rk .i8 (fun b => p b ∧ b ≠ b9) X v zs := by
  obtain ⟨ao, cap, hv, h1, h2, h3, h4, h5⟩ := h
  refine ⟨ao, cap, hv, h1, fun h0 => ?_, h3, h4, h5⟩
  obtain ⟨b, o, e, hp, hs, hc⟩ := h2 h0
  refine ⟨b, o, e, ⟨hp, fun e => ?_⟩, hs, hc⟩
  have := hc 0 (by rcases zs with _ | ⟨z, r⟩; exact absurd rfl h0; simp)
  rw [e] at this
  rcases cell0 hb this with e | e <;> cases e
theorem MdC.kept {p S : Nat → Prop} {W X : World} {m : Md} {tv mv ev cv sv bv bev gv uv : Value} (h : MdC p W m tv mv ev cv sv bv bev gv uv) (hk : Kept S W X) (hn : ∀ b, p b → ¬ S b) : MdC p X m tv mv ev cv sv bv bev gv uv :=
  ⟨h.tx.kept hk hn, h.mg.kept hk hn, h.e.kept hk hn, h.c.kept hk hn, h.s.kept hk hn, h.b.kept hk hn, h.be.kept hk hn, h.g.kept hk hn, h.u.kept hk hn, h.so, h.eo, h.lo⟩
theorem rk_nil (p : Nat → Prop) (W : World) : Rk .i8 p W nil8 [] :=
  ⟨none, 0, rfl, by simp, fun h => absurd rfl h, by simp, fun _ => rfl, Nat.le_refl _⟩
theorem bk_nil (p : Nat → Prop) (W : World) : BkR p W nil8 [] :=
  ⟨none, 0, rfl, fun _ => rfl, Nat.le_refl _, by simp, fun h => absurd h (Nat.not_lt_zero _)⟩
theorem mdl_set2 {W : World} {q9 : Nat} {s : Shp} {tv mv ev cv sv bv bev gv uv : Value} {es ls : Int} (h : W.heap[q9]? = some (.cells (mdlC s tv mv ev es cv sv bv bev gv uv ls) 48 (0, 0))) (a b : Value) :
    ((W.setCell ⟨q9, 10, none⟩ a).setCell ⟨q9, 11, none⟩ b).heap[q9]? = some (.cells (mdlC s tv mv ev es a b bv bev gv uv ls) 48 (0, 0)) := by
  have e0 := Lib.heap_setCell_same h a (i := 10)
  exact Lib.heap_setCell_same e0 b (i := 11)
theorem mdl_setB {W : World} {q9 : Nat} {s : Shp} {tv mv ev cv sv bv bev gv uv : Value} {es ls : Int} (h : W.heap[q9]? = some (.cells (mdlC s tv mv ev es cv sv bv bev gv uv ls) 48 (0, 0))) (a : Value) :
    (W.setCell ⟨q9, 13, none⟩ a).heap[q9]? = some (.cells (mdlC s tv mv ev es cv sv bv a gv uv ls) 48 (0, 0)) := Lib.heap_setCell_same h a (i := 13)
theorem mdl_setE {W : World} {q9 : Nat} {s : Shp} {tv mv ev cv sv bv bev gv uv : Value} {es ls : Int} (h : W.heap[q9]? = some (.cells (mdlC s tv mv ev es cv sv bv bev gv uv ls) 48 (0, 0))) (a : Value) :
    (W.setCell ⟨q9, 8, none⟩ a).heap[q9]? = some (.cells (mdlC s tv mv a es cv sv bv bev gv uv ls) 48 (0, 0)) := Lib.heap_setCell_same h a (i := 8)
theorem mdl_setL {W : World} {q9 : Nat} {s : Shp} {tv mv ev cv sv bv bev gv uv : Value} {es ls : Int} (h : W.heap[q9]? = some (.cells (mdlC s tv mv ev es cv sv bv bev gv uv ls) 48 (0, 0))) (a : Value) :
    (W.setCell ⟨q9, 12, none⟩ a).heap[q9]? = some (.cells (mdlC s tv mv ev es cv sv a bev gv uv ls) 48 (0, 0)) := Lib.heap_setCell_same h a (i := 12)
theorem mdl_setU {W : World} {q9 : Nat} {s : Shp} {tv mv ev cv sv bv bev gv uv : Value} {es ls : Int} (h : W.heap[q9]? = some (.cells (mdlC s tv mv ev es cv sv bv bev gv uv ls) 48 (0, 0))) (a : Value) :
    (W.setCell ⟨q9, 15, none⟩ a).heap[q9]? = some (.cells (mdlC s tv mv ev es cv sv bv bev gv a ls) 48 (0, 0)) := Lib.heap_setCell_same h a (i := 15)
theorem blInfo : ∃ i0, Tryd.prog.info? 72 = some i0 ∧ i0.zero = some (.agg (blkC nil8 nil8 nil8 nil8 nil8 nil8 0 0 0 0 0 nil8 nil8 nil8 0 0 0)) ∧ i0.size = 17 ∧ i0.bytes = 280 :=
  info_parts (by kernel_rfl)
/-- One block behind a row of one's own. -/
theorem pushK (X : World) (B : Nat) (v : Value) (F : List Value) (j : Nat) (C : Array Value) (hC : C.size = 17) (h1 : C.all (·.oneCell') = true) (hown : X.ownsRow B 72 17 v j F) (hj : (j + 1) * 280 ≤ 140737488355328) (hB : B ≤ X.heap.size) :
    ∃ v' X', (Builtin.append_ #[46, 46] 46 #[v, .slice (some ⟨X.heap.size, 0, none⟩) 1 1]).run Tryd.prog (X.alloc (.cells C 72)) = .ok v' X' ∧
      X'.ownsRow B 72 17 v' (j + 1) (F ++ C.toList) ∧ Kept (fun b => v.ownBlock = some b) X X' ∧ (∀ b, v'.ownBlock = some b → v.ownBlock = some b ∨ X.heap.size ≤ b) := by
  obtain ⟨i0, hi0, hz0, hz1, hz2⟩ := blInfo
  have hY : (X.alloc (.cells C 72)).ownsRow B 72 17 v j F := owns_kept hown ((Kept.refl (fun _ => False) X).alloc _) (fun _ _ e => e)
  obtain ⟨v', w', hrun, ho, hg, _, hb⟩ := run_append_own_at (P := Tryd.prog) (X.alloc (.cells C 72)) B 46 46 72 i0 _ 17 280 Tryd.underlying46 hi0 hz0 hz1 hz2 rfl (by omega) _ j _ hY ⟨X.heap.size, 0, none⟩ 1 1 C.toList (by simp [hC])
    (fun q u hq => by
      rw [Addr.add_lit, Nat.zero_add, World.cell?_alloc_new, ← Array.getElem?_toList]
      exact hq) (fun u hu => by
      rw [Array.all_eq_true'] at h1
      exact h1 u (Array.mem_toList_iff.1 hu)) (by unfold maxLen; omega) hj (by simp; omega)
  refine ⟨v', w', hrun, ho, ((Kept.refl (fun b => v.ownBlock = some b) X).alloc _).grown hg (fun q _ e => e), fun b hb2 => ?_⟩
  rcases hb with e | e
  · left; rw [← e]; exact hb2
  · right
    rw [e] at hb2
    simp at hb2
    omega
/-- Blocks' cells, one behind the other. -/
def flB (Cs : Nat → Array Value) : Nat → List Value
  | 0 => []
  | j + 1 => flB Cs j ++ (Cs j).toList
theorem flB_len {Cs : Nat → Array Value} (h : ∀ i, (Cs i).size = 17) : ∀ j, (flB Cs j).length = j * 17
  | 0 => rfl
  | j + 1 => by
    show (flB Cs j ++ (Cs j).toList).length = _
    rw [List.length_append, flB_len h j, Array.length_toList, h j, Nat.add_mul]
theorem flB_get {Cs : Nat → Array Value} (h : ∀ i, (Cs i).size = 17) : ∀ n i, i < n → ∀ k, k < 17 → (flB Cs n)[i * 17 + k]? = (Cs i)[k]?
  | 0, i, hi, _, _ => absurd hi (Nat.not_lt_zero _)
  | n + 1, i, hi, k, hk => by
    have hl := flB_len h n
    show (flB Cs n ++ (Cs n).toList)[i * 17 + k]? = _
    rcases Nat.lt_or_ge i n with e | e
    · rw [List.getElem?_append_left (by omega)]
      exact flB_get h n i e k hk
    · obtain rfl : i = n := by omega
      rw [List.getElem?_append_right (by omega), hl, Nat.add_sub_cancel_left, Array.getElem?_toList]
/-- A row of blocks of one's own. -/
theorem bkr_of_own {B : Nat} {w : World} {v : Value} {L : List Bk} {Cs : Nat → Array Value} {p : Nat → Prop} (hC : ∀ i, (Cs i).size = 17) (h : w.ownsRow B 72 17 v L.length (flB Cs L.length)) (hp : ∀ b, v.ownBlock = some b → p b) (hb : ∀ i, i < L.length → BkC p w (Cs i) (gBk L i)) (hl : L.length * 280 ≤ 140737488351232) : BkR p w v L := by
  rcases h.2 with ⟨rfl, h0⟩ | ⟨g, cap, cur, rfl, hb2, hg, hnc, _⟩
  · exact ⟨none, 0, by rw [h0], fun _ => rfl, by omega, hl, fun h1 => by omega⟩
  · refine ⟨_, cap, rfl, fun e => (by cases e), hnc, hl, fun _ => ⟨g, 0, rfl, hp g rfl, lt_of_heap hg, fun i hi => ⟨Cs i, hb i hi, fun k hk => ?_⟩⟩⟩
    rw [Nat.zero_add, h.cellAt (i * 17 + k) (by omega)]
    exact flB_get hC _ i hi k hk
/-- What the slots of the fifth region hold. -/
def saP (s : Shp) (SV : Array Value) (V D B db : Nat) (T : List (List UInt8)) (M : List Mg) (W : World) (i : Nat) (v : Value) (w : World) : Prop := match i with
  | 0 => v = .agg SV
  | 1 => v = .pointer (some ⟨B, 0, none⟩)
  | 2 => v = zV (V : Int)
  | 3 => ∃ tv mv, v = .agg #[tv, mv] ∧ TxR (fun b => W.heap.size ≤ b) w tv T ∧ MgR (fun b => W.heap.size ≤ b) w mv M
  | 4 => v = .pointer (some ⟨B, 2, none⟩)
  | 5 => v = zV (D : Int)
  | 6 => ∃ g, v = .slice (some ⟨g, 0, none⟩) D D ∧ Rk .i8 (fun b => W.heap.size ≤ b) w v (mkL D (fun _ => 64))
  | 7 => v = .pointer (some ⟨B, 2, none⟩)
  | 8 => v = zV (D : Int)
  | 9 => v = zV (db : Int)
  | 10 => v = zV (4 + (db : Int))
  | 11 => ∃ tv mv g, v = .agg (mdlC s tv mv nil8 2 nil8 nil8 nil8 nil8 (.slice (some ⟨g, 0, none⟩) D D) nil8 (4 + (db : Int))) ∧ TxR (fun b => W.heap.size ≤ b) w tv T ∧ MgR (fun b => W.heap.size ≤ b) w mv M ∧ Rk .i8 (fun b => W.heap.size ≤ b) w (.slice (some ⟨g, 0, none⟩) D D) (mkL D (fun _ => 64))
  | 12 => ∃ b9, v = .pointer (some ⟨b9, 0, none⟩) ∧ W.heap.size ≤ b9 ∧ w.heap[b9]? = some (.cells mdl0 48 (0, 0))
  | _ => True
theorem saP_fresh (s : Shp) (SV : Array Value) (V D B db : Nat) (T : List (List UInt8)) (M : List Mg) (W : World) (i : Nat) (v : Value) (w w' : World) (h : saP s SV V D B db T M W i v w) (hk : Fresh w w') : saP s SV V D B db T M W i v w' := by
  unfold saP at *
  split at h
  all_goals try exact h
  · obtain ⟨tv, mv, h1, h2, h3⟩ := h
    exact ⟨tv, mv, h1, h2.fresh hk, h3.fresh hk⟩
  · obtain ⟨g, h1, h2⟩ := h
    exact ⟨g, h1, h2.fresh hk⟩
  · obtain ⟨tv, mv, g, h1, h2, h3, h4⟩ := h
    exact ⟨tv, mv, g, h1, h2.fresh hk, h3.fresh hk, h4.fresh hk⟩
  · obtain ⟨b9, h1, h2, h3⟩ := h
    exact ⟨b9, h1, h2, hk.at h3 (fun e => e)⟩
end Go.Proofs.YtakiimjldccgcabDoor
