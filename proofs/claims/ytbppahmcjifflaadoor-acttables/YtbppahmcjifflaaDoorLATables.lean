/-
  For every kind the statement ActTables answers true: awake does; twice Table is the document's, whatever was stored to the first one; its card, tied to the program's text.
-/
import Derived.Test.YtbppahmcjifflaaDoorAci
import Derived.Test.YtbppahmcjifflaaDoorAcb
namespace Go.Proofs.YtbppahmcjifflaaDoor.ATables
open Go.ChangeShapes Go.WideShapes Go.ChangeAt Go.RowKit Go.Lib Go.Maps

/-- A row of n in memory of its own. -/
def Mine (w wr : World) (v : Value) (n : Nat) : Prop := ∃ zs : List Int, zs.length = n ∧ wr.ownsRow w.heap.size 30 1 v n (zs.map (Value.int .i8)) ∧ Fresh w wr
theorem Mine.set {w wr : World} {g n c j : Nat} {x : Int} (h : Mine w wr (.slice (some ⟨g, 0, none⟩) n c) n) : Mine w (wr.setCell ⟨g, j, none⟩ (.int .i8 x)) (.slice (some ⟨g, 0, none⟩) n c) n := by
  obtain ⟨zs, hl, ho, hF⟩ := h
  have hg := (own_block ho).1
  refine ⟨zs.set j x, by simp [hl], ?_, hF.setCell (fun e => by simp only at e; omega) _⟩
  have := own_setB (i := j) (x := Value.int .i8 x) ho
  rwa [← List.map_set] at this

set_option maxHeartbeats 2000000 in
set_option maxRecDepth 100000 in
theorem walk (k : Int) (w : World) (hB : Bend w) (hk : I64 k) :
    Calls Tryd.prog 3 #[zV k] w fun e w' => e = .returned (.bool true) ∧ Fresh w w' := by
  have HAW : Hid (Unit → _) := fun (_ : Unit) => awake_any w hB
  have HT : Hid (∀ W, Fresh w W → _) := fun W hF => Table_any k W (hB.fresh hF) hk
  have HR : Hid (∀ W, _) := fun W => refTable_any k W
  have HQ : Hid ((tbL k).length * kb .i8 ≤ 140737488351232 ∧ (tbL k).length ≤ 256 ∧ ∀ z ∈ tbL k, Fit .i8 z) := ⟨by have := tbL_len k; simp [kb]; omega, tbL_len k, tbL_c8 k⟩
  have HS : Hid (∀ W p q a b, Rk .i8 p W a (tbL k) → Rk .i8 q W b (tbL k) → _) := fun W p q a b h1 h2 => same8_any p q a b (tbL k) W h1 h2
  clear hB
  generalize tbL k = L at *
  generalize tbE k = E at *
  go_enter Tryd.func3, Tryd.ntmps3
  go_wp2_with fail
  refine (HAW.out ()).mono ?_
  rintro e w0 ⟨rfl, hF0⟩
  have HF0 : Hid (Fresh w w0) := hF0
  clear HAW hF0
  go_wp2
  go_loopw [10] (fun iv wr => ∃ j : Nat, j ≤ 2 ∧ iv = zV j ∧ Hid (Fresh w wr)) (fun iv _ => 2 - (RowKit.intOf iv).toNat)
  case atStart => exact ⟨0, Nat.zero_le _, rfl, HF0.out⟩
  case round =>
    obtain ⟨j, hj, rfl, HA⟩ := hrel
    clear HF0
    by_cases hlt : j < 2
    · have hlt' : (j : Int) < 2 := by omega
      have H1 : Hid (Unit → _) := fun (_ : Unit) => HT.out wr HA.out
      clear HT
      go_wp2_with fail
      refine (H1.out ()).mono ?_
      rintro e w1 ⟨v1, rfl, ho1, hF1⟩
      clear H1
      have H2 : Hid (Unit → _) := fun (_ : Unit) => HR.out w1
      clear HR
      have HO1 : Hid (∀ W, Fresh w1 W → W.ownsRow wr.heap.size 30 1 v1 L.length (L.map (Value.int .i8))) := fun W hF => owns_kept ho1 hF (fun _ _ e => e)
      have HF1 : Hid (Fresh w w1) := HA.out.trans hF1 (fun _ _ e => e)
      obtain ⟨ao, ac, rfl⟩ := ownsRow_shape ho1
      have hcap : ao = none ∨ ∃ g, ao = some ⟨g, 0, none⟩ := by
        rcases ho1.2 with ⟨e, _⟩ | ⟨g', cap', cur, hv, _⟩
        · exact .inl (by injection e)
        · exact .inr ⟨g', by injection hv⟩
      clear ho1 hF1
      go_wp2_with fail
      refine (H2.out ()).mono ?_
      rintro e w2 hg2
      obtain ⟨v2, rfl, hr2, hF2⟩ := hg2.row HQ.out.1 HQ.out.2.2
      clear hg2 H2
      have H3 : Hid (Unit → _) := fun (_ : Unit) => HS.out w2 _ _ _ _ (rk_of_own (HO1.out w2 hF2) HQ.out.1 HQ.out.2.2) hr2
      have HF2 : Hid (Fresh w1 w2) := hF2
      clear hr2 hF2 HS
      go_wp2_with fail
      refine (H3.out ()).mono ?_
      rintro e w3 ⟨rfl, n3, hw3⟩
      have hF3 : Fresh w1 w3 := by rw [hw3]; exact HF2.out.drewN n3
      have HM : Hid (Mine w w3 (.slice ao L.length ac) L.length) := ⟨L, rfl, own_low (HO1.out w3 hF3) HA.out.size, HF1.out.trans hF3 (fun _ _ e => e)⟩
      have hn := HQ.out.2.1
      clear hF3 hw3 H3 HF2 HF1 HO1 HQ
      generalize L.length = n at *
      go_wp2
      go_loopw [33] (fun iv wr => ∃ i : Nat, i ≤ n ∧ iv = zV i ∧ Hid (Mine w wr (.slice ao n ac) n)) (fun iv _ => n - (RowKit.intOf iv).toNat)
      case atStart => exact ⟨0, Nat.zero_le _, rfl, HM.out⟩
      case round =>
        obtain ⟨i, hi, rfl, HA2⟩ := hrel
        clear HM
        by_cases hlt2 : i < n
        · have hlt2' : (i : Int) < (n : Int) := by omega
          obtain ⟨zs, hl, ho, hF⟩ := HA2.out
          obtain ⟨g, rfl⟩ : ∃ g, ao = some ⟨g, 0, none⟩ := by
            rcases hcap with rfl | h
            · exfalso
              rcases ho.2 with ⟨_, _⟩ | ⟨g', cap', cur, hv, _⟩
              · omega
              · cases hv
            · exact h
          have f3 := own_frozen ho i
          have g3 := own_get ho i hlt2
          have HX : Hid (Mine w (wr.setCell ⟨g, i, none⟩ (.int .i8 99)) (.slice (some ⟨g, 0, none⟩) n ac) n) := HA2.out.set
          clear HA2 ho hF hl hcap
          go_wp2
          go_roundw
          case rel => exact ⟨i + 1, hlt2, by go_num, HX.out⟩
          case measure => simp [RowKit.intOf]; omega
        · obtain rfl : i = n := by omega
          have HX : Hid (Fresh w wr) := let ⟨_, _, _, h⟩ := HA2.out; h
          clear HA2
          go_wp2
          go_roundw
          case rel => exact ⟨j + 1, hlt, by go_num, HX.out⟩
          case measure => simp [RowKit.intOf]; omega
    · obtain rfl : j = 2 := by omega
      go_wp2
      go_ret
      exact ⟨rfl, HA.out⟩

set_option maxRecDepth 100000 in
theorem contract (H : Type) (enc : TypeId × Value → H) (W : World) (base : Nat) (args : Array Value) (ds gs : List (DataW H)) (before : List MemPlace)
    (hval : ∀ (j : Nat) t v, Tryd.f3.params[j]? = some t → args[j]? = some v → Value.okWide Tryd.prog W .any base t v)
    (hW : DataW.Whole enc Tryd.prog Tryd.f3.params.toList Rows.actTablesSpec.vars false W args.toList ds gs before) 
    (hsz : (DataW.weightsEach Tryd.prog (Tryd.f3.params.toList ++ []) (ds ++ gs)).all (· ≤ reachBytes) = true) (hL : laidMetH Tryd.prog Rows.actTablesRow.laid W) :
    Calls Tryd.prog 3 args W fun e W' => ∃ v, e = .returned v ∧ Rows.actTablesSpec.post enc Tryd.prog Tryd.f3 false true false false W args v W' := by
  have hW' := hW
  obtain ⟨p, q, hA0, hV, rfl, hfz, hnd⟩ := hW
  have hA : DataW.TrodAll enc Tryd.prog W 0 (fun _ => true) true Tryd.f3.params.toList args.toList ds p := hA0
  rw [Tryd.params3] at hA hval hsz
  obtain ⟨rfl, rfl⟩ := trodVars_none hV
  obtain ⟨v0, d0, rfl, rfl, h0⟩ := trodAll_one hA
  obtain ⟨k, rfl, rfl, rfl, w1⟩ := open_int Tryd.underlying3 (hval 0 3 v0 rfl rfl) h0
  refine (walk k W (bend_of_laid hL) (i64_of w1)).mono fun e W' ⟨he, hk⟩ => ?_
  subst he
  exact ⟨_, rfl, post_law rfl (by kernel_rfl) (by kernel_rfl) hW' rfl hk⟩

set_option maxRecDepth 100000 in
theorem laid_met (os : Os) : laidMet Tryd.prog Rows.actTablesRow.laid ((layIn (World.holding Tryd.prog os ⟨#[], #[], []⟩)).forCall (fun _ _ => 0) ⟨#[], #[.int .i64 0], []⟩).memory :=
  laidMet_of_run' 8 (by kernel_rfl) (by kernel_rfl)
set_option maxRecDepth 100000 in
theorem reads (os : Os) {H : Type} (enc : TypeId × Value → H) : ∃ places, DataW.whole enc Tryd.prog ((layIn (World.holding Tryd.prog os ⟨#[], #[], []⟩)).forCall (fun _ _ => 0) ⟨#[], #[.int .i64 0], []⟩).memory Tryd.f3.params.toList Rows.actTablesSpec.vars false (#[.int .i64 0] : Array Value).toList 8 = some ([.lit (.int .i64 0)], [], places) :=
  ⟨[], by kernel_rfl⟩

set_option maxRecDepth 100000 in
theorem lifted (os : Os) (started : os.Started) (H : Type) (enc : TypeId × Value → H) (F : Stop.Interp) :
    ReturnsInHanded {} Tryd.checked os 3 .any ((OpenSpec.ofChange Rows.actTablesSpec).preRow enc Tryd.prog Tryd.f3 Rows.actTablesRow.domain false Rows.actTablesRow.laid) (((OpenSpec.ofChange Rows.actTablesSpec).at F).post enc Tryd.prog Tryd.f3 false true false false) := by
  obtain ⟨places, hx⟩ := reads os enc
  refine returnsInHanded_of_row (C := Tryd.checked) (s := OpenSpec.ofChange Rows.actTablesSpec) Tryd.own started (by kernel_rfl) Tryd.func3
    (witness_row_at (enc := enc) (C := Tryd.checked) false (layIn (World.holding Tryd.prog os ⟨#[], #[], []⟩)) #[.int .i64 0] rfl (by kernel_rfl) (by kernel_rfl) (by kernel_rfl)
      (OpenSpec.preRow_of_cond 8 hx (by kernel_rfl) (fun k hk => by cases hk) (by kernel_rfl) (laid_met os))) ?_
  intro W base args ds gs before hval hW _ hc hsz hL _ _
  exact contract H enc W base args ds gs before hval hW hsz hL

theorem said : Rows.ActTablesSaid :=
  OpenClaim.holds_of_cond 3 Tryd.f3 rfl rfl rfl rfl rfl rfl rfl ⟨rfl, rfl, rfl, rfl, rfl⟩ rfl rfl rfl rfl rfl (by kernel_rfl) Tryd.func3 (by kernel_rfl)
    (of_decide_eq_true (by kernel_rfl)) (by unfold Func.isWrapper; first | (rw [if_pos (by decide +kernel)]; kernel_rfl) | (rw [if_neg (by decide +kernel)]; exact ⟨rfl, rfl⟩))
    (fun os started H enc _ F => by rw [OpenClaim.pre_eq_preRow]; exact lifted os started H enc F)

theorem plain (f : FuncId) (fn : Func) (hf : Tryd.pinned.checked.prog.funcNamed Rows.actTablesRow.func = some f) (hfn : Tryd.pinned.checked.prog.funcs[f]? = some fn) :
    false = Tryd.pinned.checked.prog.looks [] ∧ ∀ (j : Nat) t, fn.params[j]? = some t → Tryd.pinned.checked.prog.wantsStandIn t = false := by
  obtain rfl : f = 3 := Option.some.inj ((show Tryd.prog.funcNamed Rows.actTablesRow.func = some 3 by kernel_rfl).symm.trans hf) |>.symm
  obtain rfl : fn = Tryd.f3 := (Option.some.inj (Tryd.func3.symm.trans hfn)).symm
  refine ⟨by kernel_rfl, fun j t ht => ?_⟩
  have hall : (Tryd.f3.params.toList.all fun u => !Tryd.prog.wantsStandIn u) = true := by kernel_rfl
  exact (show Tryd.prog.wantsStandIn t = false by simpa using List.all_eq_true.1 hall t (Array.mem_toList_iff.2 (Array.mem_of_getElem? ht)))

theorem card : Rows.ActTablesCardSaid :=
  Claim7.holds_tied_plain_at .later [] _ _ _ _ said (fun _ h => by cases h) (by kernel_rfl) (fun _ h => by cases h) actTables_row_tie rfl ⟨rfl, rfl⟩ (by kernel_rfl) rfl plain (by kernel_rfl)

end Go.Proofs.YtbppahmcjifflaaDoor.ATables
namespace Go.Proofs.YtbppahmcjifflaaDoor
theorem actTables_card : Rows.ActTablesCardSaid := ATables.card
end Go.Proofs.YtbppahmcjifflaaDoor
