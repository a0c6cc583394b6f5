/-
  The usual bends, the package's: what each makes of a number, the table of them, Table.
-/
import Derived.Test.YtbppahmcjifflaaDoorAcN
import Derived.Test.YtbppahmcjifflaaDoorFil
import Derived.Lib.MinMax
import Derived.Maps.OwnSet
import Derived.Maps.OwnOps
namespace Go.Proofs.YtbppahmcjifflaaDoor
open Go.RowKit Go.Lib Go.Maps

set_option maxHeartbeats 1000000 in
theorem rounded_any (n s : Int) (w : World) (hn : I64 n) : Calls Tryd.prog 25 #[zV n, zV s] w fun e w' => e = .returned (.int .i8 (clamp (rdQ n s) (-127) 127)) ∧ Drew w w' := by
  have HR : Hid (Unit → _) := fun (_ : Unit) => round_any n s w hn
  have HN : Hid (∀ x W, _) := fun x W => narrow_any x W
  generalize rdQ n s = q at *
  generalize rdE s = E at *
  generalize hc : clamp q (-127) 127 = c at *
  go_enter Tryd.func25, Tryd.ntmps25
  go_wp2_with fail
  refine (HR.out ()).mono ?_
  rintro e w1 ⟨rfl, hw1⟩
  have HD : Hid (Drew w w1) := hw1
  clear hw1 HR
  go_wp2_with fail
  refine (HN.out q w1).mono ?_
  rintro e w2 ⟨rfl, hw2⟩
  have HD2 : Hid (Drew w w2) := HD.out.trans hw2
  rw [hc]
  clear hw2 HN HD
  go_wp2
  go_ret
  exact ⟨rfl, HD2.out⟩

set_option maxHeartbeats 1000000 in
theorem opening_up (x : Int) (w : World) (hB : Bend w) (hx : 0 ≤ x ∧ x ≤ 128) : Calls Tryd.prog 40 #[zV x] w fun e w' => e = .returned (zV (opP x)) ∧ Drew w w' := by
  have HX : Hid (Unit → _) := fun (_ : Unit) => exp2_any (-8192 * x) w hB ⟨by omega, by omega⟩
  have h0 := exp2_nonneg (-8192 * x)
  have h1 := exp2_le (-8192 * x)
  have hb := opP_bound x
  unfold opP at hb ⊢
  clear hB
  obtain ⟨x0, x1⟩ := hx
  have hx0 : ¬ x < 0 := by omega
  generalize exp2 (-8192 * x) = e at *
  have hd : (68719476736 : Int).tdiv (1073741824 + e) = 68719476736 / (1073741824 + e) := Int.tdiv_eq_ediv_of_nonneg (by omega)
  have hd0 : ¬ (1073741824 + e) = 0 := by omega
  go_enter Tryd.func40, Tryd.ntmps40
  go_wp2_with fail
  refine (HX.out ()).mono ?_
  rintro e w1 ⟨rfl, hw1⟩
  clear HX
  go_wp2
  go_ret
  exact ⟨rfl, hw1⟩

set_option maxHeartbeats 1000000 in
theorem opening_any (x : Int) (w : World) (hB : Bend w) (hx : C8 x) : Calls Tryd.prog 40 #[zV x] w fun e w' => e = .returned (zV (opn x)) ∧ Drew w w' := by
  obtain ⟨x0, x1⟩ := hx
  unfold opn
  by_cases h : x < 0
  · rw [if_pos h]
    have HX : Hid (Unit → _) := fun (_ : Unit) => opening_up (-x) w hB ⟨by omega, by omega⟩
    have hb := opP_bound (-x)
    clear hB
    generalize opP (-x) = o at *
    go_enter Tryd.func40, Tryd.ntmps40
    go_wp2_with fail
    refine (HX.out ()).mono ?_
    rintro e w1 ⟨rfl, hw1⟩
    clear HX
    go_wp2
    go_ret
    exact ⟨rfl, hw1⟩
  · rw [if_neg h]
    exact opening_up x w hB ⟨by omega, by omega⟩

set_option maxHeartbeats 1000000 in
theorem cut_any (x : Int) (w : World) (hx : C8 x) : Calls Tryd.prog 38 #[zV x] w fun e w' => e = .returned (.int .i8 (bnt 1 x)) ∧ Drew w w' := by
  obtain ⟨x0, x1⟩ := hx
  rw [bnt_cut]
  have h0 : 0 ≤ max x 0 := by omega
  have h1 : max x 0 ≤ 127 := by omega
  have hm : max x 0 = x ∨ max x 0 = 0 := by omega
  go_enter Tryd.func38, Tryd.ntmps38
  go_wp2
  go_ret
  exact ⟨rfl, Drew.refl _⟩

set_option maxHeartbeats 1000000 in
theorem soft_any (x : Int) (w : World) (hB : Bend w) (hx : C8 x) : Calls Tryd.prog 39 #[zV x] w fun e w' => e = .returned (.int .i8 (bnt 2 x)) ∧ Drew w w' := by
  have HO : Hid (Unit → _) := fun (_ : Unit) => opening_any x w hB hx
  obtain ⟨m0, m1⟩ := mul_opn hx
  have HR : Hid (∀ W, _) := fun W => rounded_any (x * opn x) 6 W ⟨by omega, by omega⟩
  rw [bnt_soft]
  clear hB
  generalize opn x = o at *
  generalize clamp (rdQ (x * o) 6) (-127) 127 = z at *
  obtain ⟨x0, x1⟩ := hx
  go_enter Tryd.func39, Tryd.ntmps39
  go_wp2_with fail
  refine (HO.out ()).mono ?_
  rintro e w1 ⟨rfl, hw1⟩
  have HD : Hid (Drew w w1) := hw1
  clear hw1 HO
  go_wp2_with fail
  refine (HR.out w1).mono ?_
  rintro e w2 ⟨rfl, hw2⟩
  have HD2 : Hid (Drew w w2) := HD.out.trans hw2
  clear hw2 HR HD
  go_wp2
  go_ret
  exact ⟨rfl, HD2.out⟩

set_option maxHeartbeats 1000000 in
theorem square_any (x : Int) (w : World) (hx : C8 x) : Calls Tryd.prog 41 #[zV x] w fun e w' => e = .returned (.int .i8 (bnt 3 x)) ∧ Drew w w' := by
  obtain ⟨m0, m1⟩ := mul_max hx
  have HR : Hid (∀ W, _) := fun W => rounded_any (x * max x 0) 7 W ⟨by omega, by omega⟩
  rw [bnt_square]
  generalize clamp (rdQ (x * max x 0) 7) (-127) 127 = z at *
  obtain ⟨x0, x1⟩ := hx
  go_enter Tryd.func41, Tryd.ntmps41
  go_wp2_with fail
  refine (HR.out w).mono ?_
  rintro e w2 ⟨rfl, hw2⟩
  have HD2 : Hid (Drew w w2) := hw2
  clear hw2 HR
  go_wp2
  go_ret
  exact ⟨rfl, HD2.out⟩

theorem mlaw : Keyed Tryd.prog 3 := int_keyed Tryd.underlying3
/-- How a function reads: by its number. -/
def rdF : Value → Option (DataW Unit × List MemPlace)
  | .nilFunc => some (.lit (.int .i64 (-1)), [])
  | .func (.func f) a b => if a = #[] ∧ b = #[] then some (.lit (.int .i64 (f : Int)), []) else none
  | _ => none
theorem rdF_inv {v : Value} {f : Nat} {ps : List MemPlace} (h : rdF v = some (.lit (.int .i64 (f : Int)), ps)) : v = .func (.func f) #[] #[] := by
  unfold rdF at h
  split at h
  · simp at h
  · rename_i g a b
    split at h
    · rename_i hab
      simp at h
      rw [show g = f from Int.ofNat_inj.1 h.1, hab.1, hab.2]
    · cases h
  · cases h
def bendsD : DataW Unit := (((DataW.map []).put (.int .i64 1) (.lit (.int .i64 38))).put (.int .i64 2) (.lit (.int .i64 39))).put (.int .i64 3) (.lit (.int .i64 41))
/-- In block M lies the table of the usual bends. -/
def BendsAt (w : World) (M : Nat) : Prop := w.ownsMap Tryd.prog 3 rdF M 3 bendsD
def bendOf (k : Int) : Nat := if k = 1 then 38 else if k = 2 then 39 else 41
theorem wf64 {z : Int} (h1 : -9223372036854775808 ≤ z) (h2 : z ≤ 9223372036854775807) : (Lit.int .i64 z).wf = true := by
  simp [Lit.wf, IntKind.min, IntKind.max, IntKind.signed, IntKind.bits]
  omega
theorem rdF_fn (f : Nat) : rdF (.func (.func f) #[] #[]) = some (.lit (.int .i64 (f : Int)), []) := by simp [rdF]

set_option maxHeartbeats 1000000 in
theorem bends_any (w : World) : Calls Tryd.prog 23 #[] w fun e w' => ∃ M, e = .returned (.map (some M)) ∧ BendsAt w' M ∧ Fresh w w' := by
  have h0 : (w.alloc (.map #[] 0)).ownsMap Tryd.prog 3 rdF w.heap.size 0 (.map []) := World.ownsMap_made w _ _ _
  obtain ⟨w1, r1, o1, g1⟩ := h0.update mlaw Tryd.underlying60 (by unfold maxLen; omega) (keyOf_int_mk Tryd.underlying3 (wf64 (z := 1) (by omega) (by omega))) (rdF_fn 38)
  obtain ⟨w2, r2, o2, g2⟩ := o1.update mlaw Tryd.underlying60 (by unfold maxLen; omega) (keyOf_int_mk Tryd.underlying3 (wf64 (z := 2) (by omega) (by omega))) (rdF_fn 39)
  obtain ⟨w3, r3, o3, g3⟩ := o2.update mlaw Tryd.underlying60 (by unfold maxLen; omega) (keyOf_int_mk Tryd.underlying3 (wf64 (z := 3) (by omega) (by omega))) (rdF_fn 41)
  have hF : Fresh w w3 := ((((Kept.refl (fun _ => False) w).alloc _).grown g1 (fun k hk e => by cases e; omega)).grown g2 (fun k hk e => by cases e; omega)).grown g3 (fun k hk e => by cases e; omega)
  have HX : Hid (BendsAt w3 w.heap.size ∧ Fresh w w3) := ⟨o3, hF⟩
  have hmm := @run_makeMap Tryd.prog
  clear h0 o1 o2 o3 g1 g2 g3 hF
  go_enter Tryd.func23, Tryd.ntmps23
  go_wp2
  go_ret
  exact ⟨_, rfl, HX.out⟩
theorem Tryd.zeroFn (w : World) : (zeroValue 58).run Tryd.prog w = .ok .nilFunc w := by
  simp [go_sem]
theorem BendsAt.none {w : World} {M : Nat} (h : BendsAt w M) {z : Int} (hz : I64 z) (hk : ¬ (1 ≤ z ∧ z ≤ 3)) :
    (Instr.lookup 60 (.map (some M)) (.int .i64 z) true).run Tryd.prog w = .ok (.tuple #[.nilFunc, .bool false]) w := by
  obtain ⟨es, clock, hb, F, _, hD⟩ := h
  rcases Maps.fit_look true mlaw Tryd.underlying60 (Tryd.zeroFn w) hb F (keyOf_int_mk Tryd.underlying3 (wf64 hz.1 hz.2)) with ⟨hrun, _, _⟩ | ⟨e0, y, _, _, hrun, _, hat, _⟩
  · exact hrun
  · exfalso
    rw [← hD] at hat
    have e1 : ∀ zd, bendsD.atKey (.int .i64 z) zd = zd := fun zd => by
      unfold bendsD
      rw [atKey_put_other (fun h => by simp at h; omega), atKey_put_other (fun h => by simp at h; omega), atKey_put_other (fun h => by simp at h; omega)]
      rfl
    have e2 := (e1 (.lit (.int .i64 0))).symm.trans ((hat _).trans ((hat _).symm.trans (e1 (.lit (.int .i64 1)))))
    simp at e2
theorem BendsAt.some {w : World} {M : Nat} (h : BendsAt w M) {z : Int} (hk : 1 ≤ z ∧ z ≤ 3) :
    (Instr.lookup 60 (.map (some M)) (.int .i64 z) true).run Tryd.prog w = .ok (.tuple #[.func (.func (bendOf z)) #[] #[], .bool true]) w := by
  obtain ⟨es, clock, hb, F, _, hD⟩ := h
  have e1 : ∀ zd, bendsD.atKey (.int .i64 z) zd = .lit (.int .i64 (bendOf z : Nat)) := fun zd => by
    have hc : z = 1 ∨ z = 2 ∨ z = 3 := by omega
    rcases hc with rfl | rfl | rfl <;> rfl
  rcases Maps.fit_look true mlaw Tryd.underlying60 (Tryd.zeroFn w) hb F (keyOf_int_mk Tryd.underlying3 (wf64 (z := z) (by omega) (by omega))) with ⟨hrun, _, hat⟩ | ⟨e0, y, _, _, hrun, hR, hat, _⟩
  · exfalso
    rw [← hD] at hat
    have e2 := (hat (.lit (.bool true))).symm.trans (e1 _)
    simp at e2
  · rw [← hD] at hat
    have e2 := (hat (.lit (.bool true))).symm.trans (e1 _)
    obtain ⟨y1, y2⟩ := y
    simp only at e2
    rw [e2] at hR
    rw [hrun, rdF_inv hR]
    rfl
theorem bend_enter (z : Int) (args : Array Value) (X : World) : (callFunc (bendOf z) args).run Tryd.prog X = .ok (.enter (bendOf z) args) X := by
  unfold bendOf
  split
  · simp [go_sem]
  · split <;> simp [go_sem]
theorem bend_any (z x : Int) (w : World) (hz : 1 ≤ z ∧ z ≤ 3) (hB : Bend w) (hx : C8 x) : Calls Tryd.prog (bendOf z) #[zV x] w fun e w' => e = .returned (.int .i8 (bnt z x)) ∧ Drew w w' := by
  have hc : z = 1 ∨ z = 2 ∨ z = 3 := by omega
  rcases hc with rfl | rfl | rfl
  · exact cut_any x w hx
  · exact soft_any x w hB hx
  · exact square_any x w hx

set_option maxHeartbeats 1000000 in
set_option maxRecDepth 100000 in
theorem Table_any (k : Int) (w : World) (hB : Bend w) (hk : I64 k) : Calls Tryd.prog 10 #[zV k] w fun e w' => Gives .i8 30 (tbL k) (tbE k) w e w' := by
  have HM : Hid (Unit → _) := fun (_ : Unit) => bends_any w
  by_cases h : 1 ≤ k ∧ k ≤ 3
  · rw [tbE_ok h, tbL_ok h]
    have HF : Hid (∀ i, i < 256 → ∀ W, Bend W → Calls Tryd.prog (bendOf k) #[zV (at8 i)] W fun e w' => e = .returned (.int .i8 (tbF k i)) ∧ Drew W w') := fun i hi W hW => bend_any k (at8 i) W h hW (at8_c8 hi)
    have hE := bend_enter k
    have HL : Hid (∀ W M, BendsAt W M → _) := fun W M hM => BendsAt.some (w := W) (M := M) hM h
    have HB : Hid (Bend w) := hB
    generalize bendOf k = F at *
    clear hB h
    go_enter Tryd.func10, Tryd.ntmps10
    go_wp2_with fail
    refine (HM.out ()).mono ?_
    rintro e w1 ⟨M, rfl, hM, hF1⟩
    have hl := HL.out w1 M hM
    obtain ⟨n, hn⟩ : ∃ n : Nat, n = 256 := ⟨_, rfl⟩
    have hn' : ((n : Nat) : Int) = 256 := by omega
    have hmk := run_mk ty8 n n (Nat.le_refl _) (by simp [kb]; omega) w1
    rw [hn'] at hmk
    have HFil : Hid _ := Fil.start (k := .i8) (e := 30) w1 n (tbF k) (by omega)
    have HF1 : Hid (Fresh w w1 ∧ Bend w1) := ⟨hF1, Bend.fresh HB.out hF1⟩
    clear hM hF1 HM HL HB
    generalize w1.alloc (.cells ((List.replicate n (0 : Int)).map (Value.int .i8)).toArray 30) = W0 at *
    go_wp2
    clear hmk hl
    go_loopw [20] (fun iv wr => ∃ j : Nat, j ≤ n ∧ iv = zV j ∧ Hid (Fil .i8 30 w1 n (tbF k) j wr)) (fun iv _ => n - (RowKit.intOf iv).toNat)
    case atStart => exact ⟨0, Nat.zero_le _, rfl, HFil.out⟩
    case round =>
      obtain ⟨j, hj, rfl, HA⟩ := hrel
      clear HFil
      by_cases hlt : j < n
      · have hlt' : (j : Int) < (n : Int) := by omega
        have hc8 := at8_c8 (i := j) (by omega)
        have hcv : IntKind.i8.wrap (j : Int) = at8 j := by
          unfold at8
          split <;> (simp [IntKind.wrap, IntKind.bits, IntKind.signed]; omega)
        have HCall : Hid (∀ W, Drew wr W → _) := fun W hW => HF.out j (by omega) W (Bend.fresh HF1.out.2 (HA.out.2.trans hW.fresh (fun _ _ e => e)))
        obtain ⟨c0, c1⟩ := hc8
        generalize at8 j = x at *
        clear HF HF1
        go_wp2_with fail
        refine (HCall.out _ (Drew.refl _)).mono ?_
        rintro e w3 ⟨rfl, d3, hw3⟩
        have h3 : Fil .i8 30 w1 n (tbF k) j w3 := by rw [hw3]; exact HA.out.drew d3
        have f3 := own_frozen h3.1 j
        have g3 := own_get h3.1 j hlt
        have HX : Hid _ := h3.next hlt
        clear h3 HA HCall hw3
        go_wp2
        go_roundw
        case rel => exact ⟨j + 1, hlt, by go_num, HX.out⟩
        case measure => simp [RowKit.intOf]; omega
      · obtain rfl : j = n := by omega
        have HX : Hid (Gives .i8 30 (mkL 256 (tbF k)) 0 w (.returned (.tuple #[.slice (some ⟨w1.heap.size, 0, none⟩) 256 256, zV 0])) wr) := by
          have := HA.out.done 0
          rw [hn] at this
          exact this.from HF1.out.1
        clear HA HF HF1
        go_wp2
        go_ret2
        exact HX.out
  · rw [tbE_bad h, tbL_bad h]
    have HL : Hid (∀ W M, BendsAt W M → _) := fun W M hM => BendsAt.none (w := W) (M := M) hM hk h
    clear hB h
    go_enter Tryd.func10, Tryd.ntmps10
    go_wp2_with fail
    refine (HM.out ()).mono ?_
    rintro e w1 ⟨M, rfl, hM, hF1⟩
    have hl := HL.out w1 M hM
    have HX : Hid (Gives .i8 30 [] 121 w (.returned (.tuple #[.slice none 0 0, zV 121])) w1) := ⟨_, rfl, own_nil _ _ _, hF1⟩
    clear hM hF1 HM HL
    go_wp2
    go_ret2
    exact HX.out
end Go.Proofs.YtbppahmcjifflaaDoor
