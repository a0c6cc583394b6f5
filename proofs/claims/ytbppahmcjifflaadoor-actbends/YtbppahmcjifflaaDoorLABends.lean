/-
  For every number the statement ActBends answers true: awake does; of the usual bends what is claimed is so; its card, tied to the program's text.
-/
import Derived.Test.YtbppahmcjifflaaDoorAci
import Derived.Test.YtbppahmcjifflaaDoorAcB
namespace Go.Proofs.YtbppahmcjifflaaDoor.ABends
open Go.ChangeShapes Go.WideShapes Go.ChangeAt Go.RowKit Go.Lib Go.Maps

set_option maxHeartbeats 400000 in
theorem at_any (x : Int) (w : World) : Calls Tryd.prog 20 #[.int .i8 x] w fun e w' => e = .returned (zV (plN x : Nat)) ∧ w' = w := by
  have h := plN_int x
  have h2 := plN_lt x
  generalize plN x = p at *
  have e1 : IntKind.u8.wrap x = (p : Int) := by rw [IntKind.wrap_u8, h]
  clear h
  go_enter Tryd.func20, Tryd.ntmps20
  go_wp2
  go_ret
  exact ⟨rfl, rfl⟩

set_option maxHeartbeats 2000000 in
set_option maxRecDepth 100000 in
theorem walk (x : Int) (w : World) (hB : Bend w) (hx : C8 x) :
    Calls Tryd.prog 6 #[.int .i8 x] w fun e w' => e = .returned (.bool true) ∧ Fresh w w' := by
  have HAW : Hid (Unit → _) := fun (_ : Unit) => awake_any w hB
  have HT : Hid (∀ k, 1 ≤ k ∧ k ≤ 3 → ∀ W, Fresh w W → Calls Tryd.prog 10 #[zV k] W fun e w' => ∃ g c, e = .returned (.tuple #[.slice (some ⟨g, 0, none⟩) 256 c, zV 0]) ∧ (∀ z, C8 z → w'.cell? ⟨g, plN z, none⟩ = some (.int .i8 (bnt k z))) ∧ w'.cell? ⟨g, 0, none⟩ = some (.int .i8 0) ∧ Fresh W w') := fun k hk W hF => by
    refine (Table_any k W (hB.fresh hF) ⟨by omega, by omega⟩).mono ?_
    rintro e w' ⟨v, he, ho, hF'⟩
    rw [tbE_ok hk] at he
    rw [tbL_ok hk, mkL_len] at ho
    obtain ⟨g, cap, rfl⟩ : ∃ g cap, v = .slice (some ⟨g, 0, none⟩) 256 cap := by
      rcases ho.2 with ⟨_, e⟩ | ⟨g', cap', cur, hv, hb, _⟩
      · simp at e
      · exact ⟨g', cap', hv⟩
    have hc : ∀ z, C8 z → w'.cell? ⟨g, plN z, none⟩ = some (.int .i8 (bnt k z)) := fun z hz => by
      have := own_get ho (plN z) (plN_lt z)
      rwa [mkL_get (plN_lt z), tbF_pl hz] at this
    have h0 := hc 0 ⟨by omega, by omega⟩
    rw [bnt_zero k hk] at h0
    exact ⟨g, cap, he, hc, h0, hF'⟩
  have HN : Hid _ := bend_facts hx
  have HP : Hid (∀ y W, _) := fun y W => at_any y W
  have HX : Hid (C8 x) := hx
  obtain ⟨x0, x1⟩ := hx
  clear hB
  go_enter Tryd.func6, Tryd.ntmps6
  go_wp2_with fail
  refine (HAW.out ()).mono ?_
  rintro e w0 ⟨rfl, hF0⟩
  have HF0 : Hid (Fresh w w0) := hF0
  clear HAW hF0
  go_wp2
  go_loopw [4] (fun iv wr => ∃ k : Int, 1 ≤ k ∧ k ≤ 4 ∧ iv = zV k ∧ Hid (Fresh w wr)) (fun iv _ => 4 - (RowKit.intOf iv).toNat)
  case atStart => exact ⟨1, by omega, by omega, rfl, HF0.out⟩
  case round =>
    obtain ⟨k, hk1, hk2, rfl, HA⟩ := hrel
    clear HF0
    by_cases hle : k ≤ 3
    · have H1 : Hid (Unit → _) := fun (_ : Unit) => HT.out k ⟨hk1, hle⟩ wr HA.out
      clear HT
      have hc : k = 1 ∨ k = 2 ∨ k = 3 := by omega
      rcases hc with rfl | rfl | rfl
      · go_wp2_with fail
        refine (H1.out ()).mono ?_
        rintro e w1 ⟨g, c, rfl, hc, c0, hF1⟩
        have HF1 : Hid (Fresh w w1) := HA.out.trans hF1 (fun _ _ e => e)
        have cx := hc x HX.out
        have hpx := plN_lt x
        have hpx' : ((plN x : Nat) : Int) < 256 := by omega
        have HPx : Hid (∀ W, _) := HP.out x
        obtain ⟨n1, _, n2, n3, _, n4⟩ := HN.out
        clear H1 HA hF1 HN HX
        by_cases hx0 : x ≤ 0
        · skip
          have n1p := (n3 hx0).1
          have n2p := (n2 (by omega)).1
          obtain ⟨q0, q1⟩ : C8 (x + 1) := ⟨by omega, by omega⟩
          have cy := hc (x + 1) ⟨q0, q1⟩
          have hpy := plN_lt (x + 1)
          have hpy' : ((plN (x + 1) : Nat) : Int) < 256 := by omega
          have HPy : Hid (∀ W, _) := HP.out (x + 1)
          clear hc HP n2 n3 n4
          generalize plN x = px at *
          generalize plN (x + 1) = py at *
          generalize bnt 1 x = a at *
          generalize bnt 1 (x + 1) = b at *
          subst n1p
          have d1 : decide (b < 0) = false := by simp; omega
          have d2 : decide (x < 127) = true := by simp; omega
          have d3 : decide (x ≤ 0) = true := by simp; omega
          have d4 : decide (0 < x) = false := by simp; omega
          have e1 : IntKind.i8.wrap (x + 1) = x + 1 := IntWalk.i8_in _ ⟨by omega, by omega⟩
          have HPz : Hid (∀ W, Calls Tryd.prog 20 #[.int .i8 (IntKind.i8.wrap (x + 1))] W fun e w' => e = .returned (zV (py : Nat)) ∧ w' = W) := fun W => by rw [e1]; exact HPy.out W
          have HQ1 : Hid (∀ n, Fresh w (w1.drewN n)) := fun n => HF1.out.drewN n
          go_wp2_with fail
          go_quiet ((first | (go_at_call 20; exact Calls.quiet_of_same (HPx.out _)) | (go_at_call 20; exact Calls.quiet_of_same (HPy.out _)) | (go_at_call 20; exact Calls.quiet_of_same (HPz.out _))))
          go_wp2_with fail
          go_quiet (fail)
          go_wp2
          go_roundw
          case rel => exact ⟨2, by omega, by omega, by go_num, HQ1.out _⟩
          case measure => simp [RowKit.intOf]
        by_cases hx1 : x < 127
        · skip
          have n2p := (n2 (by omega)).1
          have n1p := n4 (by omega)
          obtain ⟨q0, q1⟩ : C8 (x + 1) := ⟨by omega, by omega⟩
          have cy := hc (x + 1) ⟨q0, q1⟩
          have hpy := plN_lt (x + 1)
          have hpy' : ((plN (x + 1) : Nat) : Int) < 256 := by omega
          have HPy : Hid (∀ W, _) := HP.out (x + 1)
          clear hc HP n2 n3 n4
          generalize plN x = px at *
          generalize plN (x + 1) = py at *
          generalize hax : bnt 1 x = a at *
          obtain rfl : x = a := n1p.symm
          clear hax n1p
          generalize bnt 1 (x + 1) = b at *
          have d0 : decide (x < 0) = false := by simp; omega
          have d1 : decide (b < x) = false := by simp; omega
          have d2 : decide (x < 127) = true := by simp; omega
          have d3 : decide (x ≤ 0) = false := by simp; omega
          have d4 : decide (0 < x) = true := by simp; omega
          have e1 : IntKind.i8.wrap (x + 1) = x + 1 := IntWalk.i8_in _ ⟨by omega, by omega⟩
          have HPz : Hid (∀ W, Calls Tryd.prog 20 #[.int .i8 (IntKind.i8.wrap (x + 1))] W fun e w' => e = .returned (zV (py : Nat)) ∧ w' = W) := fun W => by rw [e1]; exact HPy.out W
          have HQ1 : Hid (∀ n, Fresh w (w1.drewN n)) := fun n => HF1.out.drewN n
          go_wp2_with fail
          go_quiet ((first | (go_at_call 20; exact Calls.quiet_of_same (HPx.out _)) | (go_at_call 20; exact Calls.quiet_of_same (HPy.out _)) | (go_at_call 20; exact Calls.quiet_of_same (HPz.out _))))
          go_wp2_with fail
          go_quiet (fail)
          go_wp2_with (go_at_call 20; refine (HPx.out _).mono ?_; rintro e w2 ⟨rfl, rfl⟩)
          go_roundw
          case rel => exact ⟨2, by omega, by omega, by go_num, HQ1.out _⟩
          case measure => simp [RowKit.intOf]
        · skip
          have n1p := n4 (by omega)
          clear hc HP n2 n3 n4
          generalize plN x = px at *
          generalize hax : bnt 1 x = a at *
          obtain rfl : x = a := n1p.symm
          clear hax n1p
          have d0 : decide (x < 0) = false := by simp; omega
          have d2 : decide (x < 127) = false := by simp; omega
          have d3 : decide (x ≤ 0) = false := by simp; omega
          have d4 : decide (0 < x) = true := by simp; omega
          have HQ1 : Hid (∀ n, Fresh w (w1.drewN n)) := fun n => HF1.out.drewN n
          go_wp2_with fail
          go_quiet ((go_at_call 20; exact Calls.quiet_of_same (HPx.out _)))
          go_wp2_with fail
          go_quiet (fail)
          go_wp2_with (go_at_call 20; refine (HPx.out _).mono ?_; rintro e w2 ⟨rfl, rfl⟩)
          go_roundw
          case rel => exact ⟨2, by omega, by omega, by go_num, HQ1.out _⟩
          case measure => simp [RowKit.intOf]
      · go_wp2_with fail
        refine (H1.out ()).mono ?_
        rintro e w1 ⟨g, c, rfl, hc, c0, hF1⟩
        have HF1 : Hid (Fresh w w1) := HA.out.trans hF1 (fun _ _ e => e)
        have cx := hc x HX.out
        have hpx := plN_lt x
        have hpx' : ((plN x : Nat) : Int) < 256 := by omega
        have HPx : Hid (∀ W, _) := HP.out x
        obtain ⟨_, _, _, _, n5, _⟩ := HN.out
        clear H1 HA hF1 HN HX
        by_cases hx0 : -128 < x
        · have n5p := n5 hx0
          obtain ⟨q0, q1⟩ : C8 (-x) := ⟨by omega, by omega⟩
          have cy := hc (-x) ⟨q0, q1⟩
          have hpy := plN_lt (-x)
          have hpy' : ((plN (-x) : Nat) : Int) < 256 := by omega
          have HPy : Hid (∀ W, _) := HP.out (-x)
          clear hc HP n5
          generalize plN x = px at *
          generalize plN (-x) = py at *
          generalize bnt 2 x = a at *
          generalize bnt 2 (-x) = b at *
          have d1 : decide (-128 < x) = true := by simp; omega
          have e1 : IntKind.i8.wrap (-x) = -x := IntWalk.i8_in _ ⟨by omega, by omega⟩
          have HPz : Hid (∀ W, Calls Tryd.prog 20 #[.int .i8 (IntKind.i8.wrap (-x))] W fun e w' => e = .returned (zV (py : Nat)) ∧ w' = W) := fun W => by rw [e1]; exact HPy.out W
          have HQ1 : Hid (∀ n, Fresh w (w1.drewN n)) := fun n => HF1.out.drewN n
          go_wp2_with fail
          go_quiet (fail)
          go_wp2_with fail
          have n6 : (IntKind.i8.wrap (a - b) != x) = false := by simp [n5p]
          clear n5p
          obtain ⟨w2, hw2⟩ : ∃ w2, w1.drewN nq = w2 := ⟨_, rfl⟩
          have cx2 : w2.cell? ⟨g, px, none⟩ = some (.int .i8 a) := by rw [← hw2]; exact cx
          have cy2 : w2.cell? ⟨g, py, none⟩ = some (.int .i8 b) := by rw [← hw2]; exact cy
          have HQ2 : Hid (∀ n, Fresh w (w2.drewN n)) := fun n => by rw [← hw2]; exact (HQ1.out nq).drewN n
          rw [hw2]
          clear hw2 cx cy HQ1 c0
          go_quiet ((first | (go_at_call 20; exact Calls.quiet_of_same (HPx.out _)) | (go_at_call 20; exact Calls.quiet_of_same (HPy.out _)) | (go_at_call 20; exact Calls.quiet_of_same (HPz.out _))))
          go_wp2
          go_roundw
          case rel => exact ⟨3, by omega, by omega, by go_num, HQ2.out _⟩
          case measure => simp [RowKit.intOf]
        · have d1 : decide (-128 < x) = false := by simp; omega
          clear hc HP n5 cx hpx hpx' HPx
          have HQ1 : Hid (∀ n, Fresh w (w1.drewN n)) := fun n => HF1.out.drewN n
          go_wp2_with fail
          go_quiet (fail)
          go_wp2_with fail
          go_quiet (fail)
          go_wp2
          go_roundw
          case rel => exact ⟨3, by omega, by omega, by go_num, HQ1.out _⟩
          case measure => simp [RowKit.intOf]
      · go_wp2_with fail
        refine (H1.out ()).mono ?_
        rintro e w1 ⟨g, c, rfl, hc, c0, hF1⟩
        have HF1 : Hid (Fresh w w1) := HA.out.trans hF1 (fun _ _ e => e)
        have cx := hc x HX.out
        have hpx := plN_lt x
        have hpx' : ((plN x : Nat) : Int) < 256 := by omega
        have HPx : Hid (∀ W, _) := HP.out x
        obtain ⟨_, n1, n2, n3, _, n4⟩ := HN.out
        clear H1 HA hF1 HN HX
        by_cases hx0 : x ≤ 0
        · skip
          have n1p := (n3 hx0).2
          have n2p := (n2 (by omega)).2
          obtain ⟨q0, q1⟩ : C8 (x + 1) := ⟨by omega, by omega⟩
          have cy := hc (x + 1) ⟨q0, q1⟩
          have hpy := plN_lt (x + 1)
          have hpy' : ((plN (x + 1) : Nat) : Int) < 256 := by omega
          have HPy : Hid (∀ W, _) := HP.out (x + 1)
          clear hc HP n2 n3 n4
          generalize plN x = px at *
          generalize plN (x + 1) = py at *
          generalize bnt 3 x = a at *
          generalize bnt 3 (x + 1) = b at *
          subst n1p
          have d1 : decide (b < 0) = false := by simp; omega
          have d2 : decide (x < 127) = true := by simp; omega
          have d3 : decide (x ≤ 0) = true := by simp; omega
          have e1 : IntKind.i8.wrap (x + 1) = x + 1 := IntWalk.i8_in _ ⟨by omega, by omega⟩
          have HPz : Hid (∀ W, Calls Tryd.prog 20 #[.int .i8 (IntKind.i8.wrap (x + 1))] W fun e w' => e = .returned (zV (py : Nat)) ∧ w' = W) := fun W => by rw [e1]; exact HPy.out W
          have HQ1 : Hid (∀ n, Fresh w (w1.drewN n)) := fun n => HF1.out.drewN n
          go_wp2_with fail
          go_quiet ((first | (go_at_call 20; exact Calls.quiet_of_same (HPx.out _)) | (go_at_call 20; exact Calls.quiet_of_same (HPy.out _)) | (go_at_call 20; exact Calls.quiet_of_same (HPz.out _))))
          go_wp2_with fail
          go_quiet (fail)
          go_wp2
          go_roundw
          case rel => exact ⟨4, by omega, by omega, by go_num, HQ1.out _⟩
          case measure => simp [RowKit.intOf]
        by_cases hx1 : x < 127
        · skip
          have n2p := (n2 (by omega)).2
          obtain ⟨q0, q1⟩ : C8 (x + 1) := ⟨by omega, by omega⟩
          have cy := hc (x + 1) ⟨q0, q1⟩
          have hpy := plN_lt (x + 1)
          have hpy' : ((plN (x + 1) : Nat) : Int) < 256 := by omega
          have HPy : Hid (∀ W, _) := HP.out (x + 1)
          clear hc HP n2 n3 n4
          generalize plN x = px at *
          generalize plN (x + 1) = py at *
          generalize bnt 3 x = a at *
          generalize bnt 3 (x + 1) = b at *
          have d0 : decide (a < 0) = false := by simp; omega
          have d1 : decide (b < a) = false := by simp; omega
          have d2 : decide (x < 127) = true := by simp; omega
          have d3 : decide (x ≤ 0) = false := by simp; omega
          have e1 : IntKind.i8.wrap (x + 1) = x + 1 := IntWalk.i8_in _ ⟨by omega, by omega⟩
          have HPz : Hid (∀ W, Calls Tryd.prog 20 #[.int .i8 (IntKind.i8.wrap (x + 1))] W fun e w' => e = .returned (zV (py : Nat)) ∧ w' = W) := fun W => by rw [e1]; exact HPy.out W
          have HQ1 : Hid (∀ n, Fresh w (w1.drewN n)) := fun n => HF1.out.drewN n
          go_wp2_with fail
          go_quiet ((first | (go_at_call 20; exact Calls.quiet_of_same (HPx.out _)) | (go_at_call 20; exact Calls.quiet_of_same (HPy.out _)) | (go_at_call 20; exact Calls.quiet_of_same (HPz.out _))))
          go_wp2_with fail
          go_quiet (fail)
          go_wp2
          go_roundw
          case rel => exact ⟨4, by omega, by omega, by go_num, HQ1.out _⟩
          case measure => simp [RowKit.intOf]
        · skip
          clear hc HP n2 n3 n4
          generalize plN x = px at *
          generalize bnt 3 x = a at *
          have d0 : decide (a < 0) = false := by simp; omega
          have d2 : decide (x < 127) = false := by simp; omega
          have d3 : decide (x ≤ 0) = false := by simp; omega
          have HQ1 : Hid (∀ n, Fresh w (w1.drewN n)) := fun n => HF1.out.drewN n
          go_wp2_with fail
          go_quiet ((go_at_call 20; exact Calls.quiet_of_same (HPx.out _)))
          go_wp2_with fail
          go_quiet (fail)
          go_wp2
          go_roundw
          case rel => exact ⟨4, by omega, by omega, by go_num, HQ1.out _⟩
          case measure => simp [RowKit.intOf]
    · obtain rfl : k = 4 := by omega
      clear HT HN HP HX
      go_wp2
      go_ret
      exact ⟨rfl, HA.out⟩

set_option maxRecDepth 100000 in
theorem contract (H : Type) (enc : TypeId × Value → H) (W : World) (base : Nat) (args : Array Value) (ds gs : List (DataW H)) (before : List MemPlace)
    (hval : ∀ (j : Nat) t v, Tryd.f6.params[j]? = some t → args[j]? = some v → Value.okWide Tryd.prog W .any base t v)
    (hW : DataW.Whole enc Tryd.prog Tryd.f6.params.toList Rows.actBendsSpec.vars false W args.toList ds gs before) 
    (hsz : (DataW.weightsEach Tryd.prog (Tryd.f6.params.toList ++ []) (ds ++ gs)).all (· ≤ reachBytes) = true) (hL : laidMetH Tryd.prog Rows.actBendsRow.laid W) :
    Calls Tryd.prog 6 args W fun e W' => ∃ v, e = .returned v ∧ Rows.actBendsSpec.post enc Tryd.prog Tryd.f6 false true false false W args v W' := by
  have hW' := hW
  obtain ⟨p, q, hA0, hV, rfl, hfz, hnd⟩ := hW
  have hA : DataW.TrodAll enc Tryd.prog W 0 (fun _ => true) true Tryd.f6.params.toList args.toList ds p := hA0
  rw [Tryd.params6] at hA hval hsz
  obtain ⟨rfl, rfl⟩ := trodVars_none hV
  obtain ⟨v0, d0, rfl, rfl, h0⟩ := trodAll_one hA
  obtain ⟨x, rfl, rfl, rfl, w1⟩ := open_int Tryd.underlying30 (hval 0 30 v0 rfl rfl) h0
  refine (walk x W (bend_of_laid hL) (fit_of (k := .i8) w1)).mono fun e W' ⟨he, hk⟩ => ?_
  subst he
  exact ⟨_, rfl, post_law rfl (by kernel_rfl) (by kernel_rfl) hW' rfl hk⟩

set_option maxRecDepth 100000 in
theorem laid_met (os : Os) : laidMet Tryd.prog Rows.actBendsRow.laid ((layIn (World.holding Tryd.prog os ⟨#[], #[], []⟩)).forCall (fun _ _ => 0) ⟨#[], #[.int .i8 0], []⟩).memory :=
  laidMet_of_run' 8 (by kernel_rfl) (by kernel_rfl)
set_option maxRecDepth 100000 in
theorem reads (os : Os) {H : Type} (enc : TypeId × Value → H) : ∃ places, DataW.whole enc Tryd.prog ((layIn (World.holding Tryd.prog os ⟨#[], #[], []⟩)).forCall (fun _ _ => 0) ⟨#[], #[.int .i8 0], []⟩).memory Tryd.f6.params.toList Rows.actBendsSpec.vars false (#[.int .i8 0] : Array Value).toList 8 = some ([.lit (.int .i8 0)], [], places) :=
  ⟨[], by kernel_rfl⟩

set_option maxRecDepth 100000 in
theorem lifted (os : Os) (started : os.Started) (H : Type) (enc : TypeId × Value → H) (F : Stop.Interp) :
    ReturnsInHanded {} Tryd.checked os 6 .any ((OpenSpec.ofChange Rows.actBendsSpec).preRow enc Tryd.prog Tryd.f6 Rows.actBendsRow.domain false Rows.actBendsRow.laid) (((OpenSpec.ofChange Rows.actBendsSpec).at F).post enc Tryd.prog Tryd.f6 false true false false) := by
  obtain ⟨places, hx⟩ := reads os enc
  refine returnsInHanded_of_row (C := Tryd.checked) (s := OpenSpec.ofChange Rows.actBendsSpec) Tryd.own started (by kernel_rfl) Tryd.func6
    (witness_row_at (enc := enc) (C := Tryd.checked) false (layIn (World.holding Tryd.prog os ⟨#[], #[], []⟩)) #[.int .i8 0] rfl (by kernel_rfl) (by kernel_rfl) (by kernel_rfl)
      (OpenSpec.preRow_of_cond 8 hx (by kernel_rfl) (fun k hk => by cases hk) (by kernel_rfl) (laid_met os))) ?_
  intro W base args ds gs before hval hW _ hc hsz hL _ _
  exact contract H enc W base args ds gs before hval hW hsz hL

theorem said : Rows.ActBendsSaid :=
  OpenClaim.holds_of_cond 6 Tryd.f6 rfl rfl rfl rfl rfl rfl rfl ⟨rfl, rfl, rfl, rfl, rfl⟩ rfl rfl rfl rfl rfl (by kernel_rfl) Tryd.func6 (by kernel_rfl)
    (of_decide_eq_true (by kernel_rfl)) (by unfold Func.isWrapper; first | (rw [if_pos (by decide +kernel)]; kernel_rfl) | (rw [if_neg (by decide +kernel)]; exact ⟨rfl, rfl⟩))
    (fun os started H enc _ F => by rw [OpenClaim.pre_eq_preRow]; exact lifted os started H enc F)

theorem plain (f : FuncId) (fn : Func) (hf : Tryd.pinned.checked.prog.funcNamed Rows.actBendsRow.func = some f) (hfn : Tryd.pinned.checked.prog.funcs[f]? = some fn) :
    false = Tryd.pinned.checked.prog.looks [] ∧ ∀ (j : Nat) t, fn.params[j]? = some t → Tryd.pinned.checked.prog.wantsStandIn t = false := by
  obtain rfl : f = 6 := Option.some.inj ((show Tryd.prog.funcNamed Rows.actBendsRow.func = some 6 by kernel_rfl).symm.trans hf) |>.symm
  obtain rfl : fn = Tryd.f6 := (Option.some.inj (Tryd.func6.symm.trans hfn)).symm
  refine ⟨by kernel_rfl, fun j t ht => ?_⟩
  have hall : (Tryd.f6.params.toList.all fun u => !Tryd.prog.wantsStandIn u) = true := by kernel_rfl
  exact (show Tryd.prog.wantsStandIn t = false by simpa using List.all_eq_true.1 hall t (Array.mem_toList_iff.2 (Array.mem_of_getElem? ht)))

theorem card : Rows.ActBendsCardSaid :=
  Claim7.holds_tied_plain_at .later [] _ _ _ _ said (fun _ h => by cases h) (by kernel_rfl) (fun _ h => by cases h) actBends_row_tie rfl ⟨rfl, rfl⟩ (by kernel_rfl) rfl plain (by kernel_rfl)

end Go.Proofs.YtbppahmcjifflaaDoor.ABends
namespace Go.Proofs.YtbppahmcjifflaaDoor
theorem actBends_card : Rows.ActBendsCardSaid := ABends.card
end Go.Proofs.YtbppahmcjifflaaDoor
