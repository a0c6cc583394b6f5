/-
  For all int64 a and b and every list of int64 whose bulk is at most 1048576 the statement FixedSums answers true: awake does, Add, Mul and Sum answer as the document says, and what is handed in stays, spare room too; its card, tied to the program's text.
-/
import Derived.Test.YtohimhojieeloaaDoorRw64
import Derived.Test.YtohimhojieeloaaDoorSm
import Derived.Test.YtohimhojieeloaaDoorMur
import Derived.Test.YtohimhojieeloaaDoorBulk1
namespace Go.Proofs.YtohimhojieeloaaDoor.FSums
open Go.ChangeShapes Go.WideShapes Go.ChangeAt Go.RowKit

theorem own_base {w : World} {B : Nat} {e : TypeId} {size : Nat} {v : Value} {n : Nat} {xs : List Value} (h : w.ownsRow B e size v n xs) {g : Nat} (hg : v.ownBlock = some g) : B ≤ g := by
  rcases h.2 with ⟨rfl, _⟩ | ⟨g', cap, cur, hv, hb, _⟩
  · simp [Value.ownBlock] at hg
  · rw [hv] at hg; simp [Value.ownBlock] at hg; omega

/-- append(row, 77). -/
theorem more64 (ty : TypeId) (W : World) (B : Nat) (v : Value) (zs : List Int) (hown : W.ownsRow B 2 1 v zs.length (zs.map (Value.int .i64))) (hB : B ≤ W.heap.size) (hl : zs.length ≤ 1048576) :
    ∃ v' W', (Builtin.append_ #[22, 22] ty #[v, .slice (some ⟨W.heap.size, 0, none⟩) 1 1]).run Tryd.prog (W.alloc (.cells #[.int .i64 77] 2)) = .ok v' W' ∧
      W'.ownsRow B 2 1 v' (zs ++ [77]).length ((zs ++ [77]).map (Value.int .i64)) ∧ (W.alloc (.cells #[.int .i64 77] 2)).grownBy W' v.ownBlock := by
  obtain ⟨i0, hi, hz0, hz1, hz2⟩ := info_parts Tryd.info64
  have hown' := owns_kept hown ((Kept.refl (fun _ => False) W).alloc (.cells #[.int .i64 77] 2)) (fun _ _ e => e)
  obtain ⟨v', w', h1, h2, h3, _⟩ := run_append_own (P := Tryd.prog) (W.alloc (.cells #[.int .i64 77] 2)) B 22 ty 2 i0 (.int .i64 0) 1 8 Tryd.underlying22 hi hz0 hz1 hz2 rfl (by omega) v zs.length (zs.map (Value.int .i64)) hown' ⟨W.heap.size, 0, none⟩ 1 1 [.int .i64 77] (by simp)
    (fun j u hj => by
      have hj' : j = 0 := by have := (List.getElem?_eq_some_iff.1 hj).1; simp at this; omega
      subst hj'
      simp at hj
      subst hj
      rw [Addr.add_lit]
      simp)
    (fun u hu => by simp at hu; subst hu; rfl) (by unfold maxLen; omega) (by omega) (by simp; omega)
  refine ⟨v', w', h1, ?_, h3⟩
  rw [List.length_append, List.map_append]
  exact h2

set_option maxHeartbeats 2000000 in
set_option maxRecDepth 100000 in
theorem walk (a b : Int) (rv : Value) (zs : List Int) (w : World) (hB : Bend w) (ha : I64 a) (hb : I64 b) (hr : Rw (fun b => b < w.heap.size) w rv zs) (hlen : zs.length ≤ 1048576) :
    Calls Tryd.prog 3 #[.int .i64 a, .int .i64 b, rv] w fun e w' => e = .returned (.bool true) ∧ Fresh w w' := by
  go_enter Tryd.func3, Tryd.ntmps3
  go_wp2_with fail
  refine (awake_any _ hB).mono ?_
  rintro e w1 ⟨rfl, hk1⟩
  go_wp2_with fail
  refine (add_any _ _ _ ha hb).mono ?_
  rintro e w2 ⟨rfl, hk2⟩
  go_wp2_with fail
  refine (refAdd_any _ _ _ ha hb).mono ?_
  rintro e w3 ⟨rfl, hk3⟩
  go_wp2_with fail
  refine (mul_any _ _ _ ha hb).mono ?_
  rintro e w4 ⟨rfl, hk4⟩
  go_wp2_with fail
  refine (refMul_any _ _ _ ha hb).mono ?_
  rintro e w5 ⟨rfl, hk5⟩
  have hf5 : Fresh w w5 := hk1.trans (((hk2.trans hk3).trans hk4).trans hk5).fresh (fun _ _ e => e)
  clear hk1 hk2 hk3 hk4 hk5 hB
  generalize inQ (a + b) = q1
  generalize inB (a + b) = q2
  generalize mulQ a b = q3
  generalize mulB a b = q4
  have hr1 := hr.kept hf5 (fun _ _ e => e)
  obtain ⟨tv, W1, hrun, hown1, hgrow⟩ := twin64 22 _ w5.heap.size _ (own64_empty w5) (by simp) _ zs _ (hr1.kept ((Kept.refl (fun _ => False) _).alloc _) (fun _ _ e => e))
  have hkW : Fresh w5 W1 := ((Kept.refl _ _).alloc _).grown hgrow (fun k hk e => by simp [Value.ownBlock] at e; omega)
  obtain ⟨fv, W2, hrun2, hown2, hgrow2⟩ := more64 22 W1 w5.heap.size tv zs hown1 hkW.size hlen
  have hkW2 : Fresh w5 W2 := (hkW.alloc _).grown hgrow2 (fun k hk e => by have := own_base hown1 e; omega)
  have hfW : Fresh w W2 := hf5.trans hkW2 (fun _ _ e => e)
  have hrW := hr1.kept hkW2 (fun _ _ e => e)
  obtain ⟨tao, tcap, rfl⟩ : ∃ ao cap, tv = .slice ao zs.length cap := ownsRow_shape hown1
  have hfull : ∃ g cap, fv = .slice (some ⟨g, 0, none⟩) (zs.length + 1) cap ∧ zs.length + 1 ≤ cap ∧ cap ≤ maxLen ∧ g < W2.heap.size := by
    rcases hown2.2 with ⟨_, h0⟩ | ⟨g, cap, cur, hv, hb, hg, hc, hm, _⟩
    · simp at h0
    · exact ⟨g, cap, by rw [hv]; simp, by simpa using hc, hm, lt_of_heap hg⟩
  obtain ⟨g, cap, rfl, hcap, hcm, hgl⟩ := hfull
  have hcell : ∀ i, i < zs.length → W2.cell? ⟨g, i, none⟩ = some (.int .i64 (zs.getD i 0)) := fun i hi => by
    have := rw_of_own hown2 (by simp; omega) (fun z hz => by
      rcases List.mem_append.1 hz with h | h
      · obtain ⟨_, _, _, _, _, hzr, _⟩ := hr; exact hzr z h
      · simp at h; subst h; exact ⟨by decide, by decide⟩)
    obtain ⟨ao, c, e1, _, e3, _⟩ := this
    obtain ⟨b', off, e4, _, _, e5⟩ := e3 (by simp)
    simp only [Value.slice.injEq] at e1
    obtain ⟨e1, _⟩ := e1
    rw [e4] at e1
    simp only [Option.some.injEq, Addr.mk.injEq] at e1
    obtain ⟨rfl, rfl, _⟩ := e1
    have := e5 i (by simp; omega)
    rw [Nat.zero_add] at this
    rw [this, List.getD_eq_getElem?_getD, List.getD_eq_getElem?_getD, List.getElem?_append_left hi]
  have hlast : W2.cell? ⟨g, zs.length, none⟩ = some (.int .i64 77) := by
    have hown3 : W2.ownsRow w5.heap.size 2 1 (.slice (some ⟨g, 0, none⟩) (zs.length + 1) cap) (zs.length + 1) ((zs ++ [77]).map (Value.int .i64)) := by
      have h := hown2
      rw [List.length_append] at h
      exact h
    rw [hown3.cellAt zs.length (by omega)]
    simp
  have hsub : Rw (fun _ => True) W2 (.slice (some ⟨g, 0, none⟩) zs.length cap) zs := by
    obtain ⟨_, _, _, h1, _, hzr, _⟩ := hr
    exact ⟨_, cap, rfl, h1, fun _ => ⟨g, 0, rfl, trivial, hgl, fun i hi => by rw [Nat.zero_add]; exact hcell i hi⟩, hzr, fun e => by cases e⟩
  obtain ⟨rao, rcap, rfl, -⟩ := hr1
  have HK : Hid (Fresh w W2) := hfW
  clear hr hgrow hgrow2 hown1 hown2 hkW hkW2 hfW hf5
  unfold maxLen at hcm
  go_wp2_with (first | (at_builtin; refine Lib.wpList_append_run _ rfl _ _ _ _ rfl _ _ rfl rfl _ _ hrun ?_) | (at_builtin; refine Lib.wpList_append_run _ rfl _ _ _ _ rfl _ _ rfl rfl _ _ hrun2 ?_))
  clear hrun hrun2
  refine (sum_any _ _ zs _ hsub).mono ?_
  rintro e W3 ⟨rfl, hk3⟩
  have hrW3 := hrW.kept hk3.fresh (fun _ _ e => e)
  go_wp2_with fail
  refine (refSum_any _ _ zs _ hrW3 hlen).mono ?_
  rintro e W4 ⟨rfl, hk4⟩
  have hk34 : Drew W2 W4 := hk3.trans hk4
  have HK4 : Hid (Fresh w W4) := HK.out.trans hk34.fresh (fun _ _ e => e)
  generalize inQ (tot zs zs.length) = q5
  generalize inB (tot zs zs.length) = q6
  obtain ⟨_, _, hr1, _, hr2, _⟩ := hrW3
  cases hr1
  have hcell4 : ∀ i, i < zs.length → W4.cell? ⟨g, i, none⟩ = some (.int .i64 (zs.getD i 0)) := fun i hi => by obtain ⟨n, rfl⟩ := hk34; exact hcell i hi
  have hlast4 : W4.cell? ⟨g, zs.length, none⟩ = some (.int .i64 77) := by obtain ⟨n, rfl⟩ := hk34; exact hlast
  have hr4 : zs ≠ [] → ∃ b off, rao = some ⟨b, off, none⟩ ∧ ∀ i, i < zs.length → W4.cell? ⟨b, off + i, none⟩ = some (.int .i64 (zs.getD i 0)) := fun h => by
    obtain ⟨b, off, e1, _, _, e2⟩ := hr2 h
    exact ⟨b, off, e1, fun i hi => by obtain ⟨n, rfl⟩ := hk4; exact e2 i hi⟩
  have H1 : Hid (∀ i, i < zs.length → W4.cell? ⟨g, i, none⟩ = some (.int .i64 (zs.getD i 0))) := hcell4
  have H2 : Hid (zs ≠ [] → ∃ b off, rao = some ⟨b, off, none⟩ ∧ ∀ i, i < zs.length → W4.cell? ⟨b, off + i, none⟩ = some (.int .i64 (zs.getD i 0))) := hr4
  have H3 : Hid (W4.cell? ⟨g, zs.length, none⟩ = some (.int .i64 77)) := hlast4
  clear hcell4 hlast4 hr4 hr2 hcell hlast hsub hrW HK hk3 hk4 hk34
  go_wp2
  go_loopw [76] (fun i wr => ∃ j : Nat, j ≤ zs.length ∧ i = .int .i64 j ∧ Drew W4 wr) (fun i _ => zs.length - (intOf i).toNat)
  case atStart => exact ⟨0, by omega, rfl, Drew.refl _⟩
  case round =>
    obtain ⟨j, hj, rfl, hwr⟩ := hrel
    have HW : Hid (Drew W4 wr) := hwr
    by_cases hlt : j < zs.length
    · obtain ⟨b', off', rfl, hc'⟩ := H2.out (fun e => by rw [e] at hlt; simp at hlt)
      have g1 : wr.cell? ⟨g, j, none⟩ = some (.int .i64 (zs.getD j 0)) := by obtain ⟨n, rfl⟩ := hwr; exact H1.out j hlt
      have g2 : wr.cell? ⟨b', off' + j, none⟩ = some (.int .i64 (zs.getD j 0)) := by obtain ⟨n, rfl⟩ := hwr; exact hc' j hlt
      clear hc' hwr H1 H2 H3
      generalize zs.getD j 0 = x at *
      go_wp2
      go_roundw
      case rel => exact ⟨j + 1, by omega, by go_num, HW.out⟩
      case measure => simp [intOf]; omega
    · obtain rfl : j = zs.length := by omega
      have g1 : wr.cell? ⟨g, zs.length, none⟩ = some (.int .i64 77) := by obtain ⟨n, rfl⟩ := hwr; exact H3.out
      clear hwr H1 H2 H3
      go_wp2
      go_ret
      exact ⟨rfl, HK4.out.trans HW.out.fresh (fun _ _ e => e)⟩

theorem contract (H : Type) (enc : TypeId × Value → H) (W : World) (base : Nat) (args : Array Value) (ds gs : List (DataW H)) (before : List MemPlace)
    (hval : ∀ (j : Nat) t v, Tryd.f3.params[j]? = some t → args[j]? = some v → Value.okWide Tryd.prog W .any base t v)
    (hW : DataW.Whole enc Tryd.prog Tryd.f3.params.toList Rows.fixedSumsSpec.vars false W args.toList ds gs before) (hbk : Rows.uptoSmall H (ds ++ gs) = true)
    (hsz : (DataW.weightsEach Tryd.prog (Tryd.f3.params.toList ++ []) (ds ++ gs)).all (· ≤ reachBytes) = true) (hL : laidMetH Tryd.prog Rows.fixedSumsRow.laid W) :
    Calls Tryd.prog 3 args W fun e W' => ∃ v, e = .returned v ∧ Rows.fixedSumsSpec.post enc Tryd.prog Tryd.f3 false true false false W args v W' := by
  have hW' := hW
  obtain ⟨p, q, hA0, hV, rfl, hfz, hnd⟩ := hW
  have hA : DataW.TrodAll enc Tryd.prog W 0 (fun _ => true) true Tryd.f3.params.toList args.toList ds p := hA0
  rw [Tryd.params3] at hA hval hsz
  obtain ⟨rfl, rfl⟩ := trodVars_none hV
  obtain ⟨v0, v1, v2, d0, d1, d2, p0, p1, p2, rfl, rfl, rfl, h0, h1, h2⟩ := trodAll_three hA
  obtain ⟨x0, rfl, rfl, rfl, w0⟩ := open_int Tryd.underlying2 (hval 0 2 v0 rfl rfl) h0
  obtain ⟨x1, rfl, rfl, rfl, w1⟩ := open_int Tryd.underlying2 (hval 1 2 v1 rfl rfl) h1
  obtain ⟨ao, ln, cap, rfl⟩ := okWide_slice Tryd.underlying22 (hval 2 22 v2 rfl rfl)
  obtain ⟨fuel, hf⟩ := h2
  obtain ⟨zs, hr, hd⟩ := rw_of (x := (d2, p2)) hf (fun es sp e => by
    have e' : d2 = .slice es sp := e
    subst e'
    have := sized_slice hsz (j := 2) (t := 22) (e := 2) rfl rfl Tryd.underlying22
    rw [Tryd.b64] at this
    simp only [reachBytes] at this
    omega)
  have hbd := bulk_le hbk
  simp only [List.append_nil, Rows.uptoBulkAll] at hbd
  have hlen : zs.length ≤ 1048576 := by
    rcases hd with ⟨_, rfl⟩ | ⟨sp, hd⟩
    · simp
    · have hd' : d2 = .slice (lits .i64 zs) sp := hd
      subst hd'
      simp only [Rows.uptoBulk] at hbd
      have := bulk_length (H := H) (lits .i64 zs)
      rw [show (lits (H := H) .i64 zs).length = zs.length by simp [lits]] at this
      omega
  refine (walk x0 x1 _ zs W (bend_of_laid hL) (i64_of w0) (i64_of w1) hr hlen).mono fun e W' ⟨he, hk⟩ => ?_
  subst he
  exact ⟨_, rfl, post_law rfl (by kernel_rfl) (by kernel_rfl) hW' rfl hk⟩

theorem laid_met (os : Os) : laidMet Tryd.prog Rows.fixedSumsUptoRow.laid ((layIn (World.holding Tryd.prog os ⟨#[], #[], []⟩)).forCall (fun _ _ => 0) ⟨#[], #[.int .i64 0, .int .i64 0, .slice none 0 0], []⟩).memory :=
  laidMet_of_run' 8 (by kernel_rfl) (by kernel_rfl)
theorem reads (os : Os) {H : Type} (enc : TypeId × Value → H) : ∃ places, DataW.whole enc Tryd.prog ((layIn (World.holding Tryd.prog os ⟨#[], #[], []⟩)).forCall (fun _ _ => 0) ⟨#[], #[.int .i64 0, .int .i64 0, .slice none 0 0], []⟩).memory Tryd.f3.params.toList Rows.fixedSumsSpec.vars false (#[.int .i64 0, .int .i64 0, .slice none 0 0] : Array Value).toList 8 = some ([.lit (.int .i64 0), .lit (.int .i64 0), .nil], [], places) :=
  ⟨[], by kernel_rfl⟩

set_option maxRecDepth 100000 in
theorem lifted (os : Os) (started : os.Started) (H : Type) (enc : TypeId × Value → H) (F : Stop.Interp) :
    ReturnsInHanded {} Tryd.checked os 3 .any ((Rows.OpenSpec.upto Rows.fixedSumsSpec).preRow enc Tryd.prog Tryd.f3 Rows.fixedSumsUptoRow.domain false Rows.fixedSumsUptoRow.laid) (((Rows.OpenSpec.upto Rows.fixedSumsSpec).at F).post enc Tryd.prog Tryd.f3 false true false false) := by
  obtain ⟨places, hx⟩ := reads os enc
  refine returnsInHanded_of_row (C := Tryd.checked) (s := Rows.OpenSpec.upto Rows.fixedSumsSpec) Tryd.own started (by kernel_rfl) Tryd.func3
    (witness_row_at (enc := enc) (C := Tryd.checked) false (layIn (World.holding Tryd.prog os ⟨#[], #[], []⟩)) #[.int .i64 0, .int .i64 0, .slice none 0 0] rfl (by kernel_rfl) (by kernel_rfl) (by kernel_rfl)
      (OpenSpec.preRow_of_cond 8 hx (by kernel_rfl) (fun k hk => by cases hk; kernel_rfl) (by kernel_rfl) (laid_met os))) ?_
  intro W base args ds gs before hval hW _ hc hsz hL _ _
  exact contract H enc W base args ds gs before hval hW (hc _ rfl) hsz hL

theorem said : Rows.FixedSumsUptoSaid :=
  OpenClaim.holds_of_cond 3 Tryd.f3 rfl rfl rfl rfl rfl rfl rfl ⟨rfl, rfl, rfl, rfl, rfl⟩ rfl rfl rfl rfl rfl (by kernel_rfl) Tryd.func3 (by kernel_rfl)
    (of_decide_eq_true (by kernel_rfl)) (by unfold Func.isWrapper; first | (rw [if_pos (by decide +kernel)]; kernel_rfl) | (rw [if_neg (by decide +kernel)]; exact ⟨rfl, rfl⟩))
    (fun os started H enc _ F => by rw [OpenClaim.pre_eq_preRow]; exact lifted os started H enc F)

theorem plain (f : FuncId) (fn : Func) (hf : Tryd.pinned.checked.prog.funcNamed Rows.fixedSumsUptoRow.func = some f) (hfn : Tryd.pinned.checked.prog.funcs[f]? = some fn) :
    false = Tryd.pinned.checked.prog.looks [] ∧ ∀ (j : Nat) t, fn.params[j]? = some t → Tryd.pinned.checked.prog.wantsStandIn t = false := by
  obtain rfl : f = 3 := Option.some.inj ((show Tryd.prog.funcNamed Rows.fixedSumsUptoRow.func = some 3 by kernel_rfl).symm.trans hf) |>.symm
  obtain rfl : fn = Tryd.f3 := (Option.some.inj (Tryd.func3.symm.trans hfn)).symm
  refine ⟨by kernel_rfl, fun j t ht => ?_⟩
  have hall : (Tryd.f3.params.toList.all fun u => !Tryd.prog.wantsStandIn u) = true := by kernel_rfl
  exact (show Tryd.prog.wantsStandIn t = false by simpa using List.all_eq_true.1 hall t (Array.mem_toList_iff.2 (Array.mem_of_getElem? ht)))

theorem card : Rows.FixedSumsUptoCardSaid :=
  Claim7.holds_tied_plain_at .later [] _ _ _ _ said (fun _ h => by cases h) (by kernel_rfl) (fun _ h => by cases h) fixedSumsUpto_row_tie rfl ⟨rfl, rfl⟩ (by kernel_rfl) rfl plain (by kernel_rfl)

end Go.Proofs.YtohimhojieeloaaDoor.FSums
namespace Go.Proofs.YtohimhojieeloaaDoor
theorem fixedSums_card : Rows.FixedSumsUptoCardSaid := FSums.card
end Go.Proofs.YtohimhojieeloaaDoor
