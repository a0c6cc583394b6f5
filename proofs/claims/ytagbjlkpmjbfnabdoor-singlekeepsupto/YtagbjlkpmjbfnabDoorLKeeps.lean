/-
  For all rows of numbers of 8 bits and scales the statement SingleKeeps answers true; its card, tied to the program's text.
-/
import Derived.Test.YtagbjlkpmjbfnabDoorLScales
import Derived.Test.YtagbjlkpmjbfnabDoorKp
import Derived.Deep.AppendLies
import Derived.Test.YtagbjlkpmjbfnabDoorBulk1
namespace Go.Proofs.YtagbjlkpmjbfnabDoor.LKeeps
open Go.ChangeShapes Go.WideShapes Go.ChangeAt Go.RowKit LScales

theorem Tryd.b8 : Tryd.prog.bytesOf 37 = 1 := by kernel_rfl
theorem Tryd.info32 : (Tryd.prog.info? 22).map (fun i => (i.zero, i.size, i.bytes)) = some (some (.int .u32 0), 1, 4) := by kernel_rfl

def v32 (bs : List Nat) : List Value := bs.map fun b => .int .u32 (b : Nat)
theorem own32_empty (w : World) : (w.alloc (.cells #[] 22)).ownsRow w.heap.size 22 1 (.slice (some ⟨w.heap.size, 0, none⟩) 0 0) 0 [] :=
  ⟨rfl, .inr ⟨w.heap.size, 0, #[], rfl, Nat.le_refl _, heap_alloc_new w _, Nat.le_refl _, Nat.zero_le _, rfl, rfl⟩⟩
theorem fresh_grown {w w0 w1 : World} {B : Nat} {v : Value} {n : Nat} {xs : List Value} {e : TypeId} {size : Nat} (hk : Fresh w w0) (hown : w0.ownsRow B e size v n xs) (hB : w.heap.size ≤ B) {o : Obj} (hg : (w0.alloc o).grownBy w1 v.ownBlock) : Fresh w w1 := by
  refine (hk.alloc o).grown hg (fun k hk e => ?_)
  rcases hown.2 with ⟨rfl, _⟩ | ⟨g, cap, cur, rfl, hb, _⟩
  · simp [Value.ownBlock] at e
  · simp [Value.ownBlock] at e; omega

theorem own_fresh {w w' : World} {B : Nat} {e : TypeId} {size : Nat} {v : Value} {n : Nat} {xs : List Value} (h : w.ownsRow B e size v n xs) (hk : Fresh w w') : w'.ownsRow B e size v n xs := by
  refine ⟨h.1, h.2.imp id fun ⟨g, cap, cur, h1, h2, h3, h4⟩ => ⟨g, cap, cur, h1, h2, ?_, h4⟩⟩
  rw [hk.block g (lt_of_heap h3) (fun e => e)]
  exact h3

theorem r32_of_own {B : Nat} {w : World} {v : Value} {bs : List Nat} (h : w.ownsRow B 22 1 v bs.length (v32 bs)) (hl : bs.length ≤ 35184372088832) (hz : ∀ z ∈ bs, z < 4294967296) : R32 (fun k => B ≤ k) w v bs := by
  rcases h.2 with ⟨rfl, h0⟩ | ⟨g, cap, cur, rfl, hb, hg, _⟩
  · have e : bs = [] := List.eq_nil_of_length_eq_zero h0
    subst e
    exact ⟨none, 0, rfl, by simp, fun h => absurd rfl h, by simp, fun _ => rfl⟩
  · refine ⟨_, cap, rfl, hl, fun _ => ⟨g, 0, rfl, hb, lt_of_heap hg, fun i hi => ?_⟩, hz, fun e => by cases e⟩
    rw [Nat.zero_add, h.cellAt i (by omega)]
    unfold v32
    rw [List.getElem?_map, List.getD_eq_getElem?_getD, List.getElem?_eq_getElem hi]
    rfl

/-- The singles made of the first j numbers. -/
def mk (zs : List Int) (s : Int) (j : Nat) : List Nat := (zs.take j).map fun z => nearB z (-s)
theorem mk_len (zs : List Int) (s : Int) {j : Nat} (h : j ≤ zs.length) : (mk zs s j).length = j := by
  unfold mk; rw [List.length_map, List.length_take]; omega
theorem mk_succ (zs : List Int) (s : Int) {j : Nat} (h : j < zs.length) : mk zs s (j + 1) = mk zs s j ++ [nearB (zs.getD j 0) (-s)] := by
  unfold mk
  rw [List.take_succ_eq_append_getElem h, List.map_append, List.getD_eq_getElem?_getD, List.getElem?_eq_getElem h]; rfl
/-- One of the first j is great. -/
def big (zs : List Int) (j : Nat) : Bool := (zs.take j).any fun z => decide (63 < z) || decide (z < -63)
theorem big_succ (zs : List Int) {j : Nat} (h : j < zs.length) : big zs (j + 1) = (big zs j || (decide (63 < zs.getD j 0) || decide (zs.getD j 0 < -63))) := by
  unfold big
  rw [List.take_succ_eq_append_getElem h, List.any_append, List.getD_eq_getElem?_getD, List.getElem?_eq_getElem h]
  simp
theorem getD_mem (zs : List Int) (j : Nat) (h : j < zs.length) : zs.getD j 0 ∈ zs := by
  rw [List.getD_eq_getElem?_getD, List.getElem?_eq_getElem h]; exact List.getElem_mem h

set_option maxHeartbeats 1000000 in
set_option maxRecDepth 100000 in
theorem walk (rv : Value) (zs : List Int) (s : Int) (w : World) (hS : Sing w) (hr : RowIs (fun b => b < w.heap.size) w rv zs) (hlen : zs.length ≤ 1048576) :
    Calls Tryd.prog 6 #[rv, .int .i64 s] w fun r w' => r = .returned (.bool true) ∧ Fresh w w' := by
  obtain ⟨i0, hi, hz0, hz1, hz2⟩ := info_parts Tryd.info32
  by_cases hs : -64 ≤ s ∧ s ≤ 64
  · obtain ⟨s1, s2⟩ := hs
    have hr0 := hr
    obtain ⟨ao, cap, rfl, hzl, hcell, hrange, _⟩ := hr
    have HS := show Hid _ from hS
    have HR := show Hid _ from hr0
    clear hr0 hS
    go_enter Tryd.func6, Tryd.ntmps6
    go_wp2
    go_loopw [5, 6, 7] (fun gt v i wr => ∃ j : Nat, j ≤ zs.length ∧ i = .int .i64 j ∧ gt = .bool (big zs j) ∧ (∀ z ∈ zs.take j, z ≠ -128) ∧ wr.ownsRow w.heap.size 22 1 v j (v32 (mk zs s j)) ∧ Fresh w wr) (fun _ _ i _ => zs.length - (intOf i).toNat)
    case atStart => exact ⟨0, by omega, rfl, by simp [big], by simp, own32_empty w, (Kept.refl _ _).alloc _⟩
    case round =>
      obtain ⟨j, hj, rfl, rfl, hno, hown, hfr⟩ := hrel
      by_cases hlt : j < zs.length
      · obtain ⟨rb, off, rfl, hpb, hrb, hcl⟩ := hcell (fun e => by rw [e] at hlt; simp at hlt)
        have hcz : wr.cell? ⟨rb, off + j, none⟩ = some (.int .i8 (zs.getD j 0)) := (hfr.cell (p := ⟨rb, off + j, none⟩) hrb (fun e => e)).trans (hcl j hlt)
        have hzr := hrange _ (getD_mem zs j hlt)
        have HX : Hid (∀ X, Fresh w X → Sing X) := fun X h => Sing.fresh HS.out h
        have HO : Hid (zs.getD j 0 ≠ -128 → ∀ z ∈ zs.take (j + 1), z ≠ -128) := fun h z hz => by
          rw [List.take_succ_eq_append_getElem hlt, List.mem_append] at hz
          rcases hz with hz | hz
          · exact hno z hz
          · rw [List.getD_eq_getElem?_getD, List.getElem?_eq_getElem hlt] at h
            simp only [List.mem_singleton] at hz
            rw [hz]
            exact h
        have HM : Hid (v32 (mk zs s (j + 1)) = v32 (mk zs s j) ++ [.int .u32 (nearB (zs.getD j 0) (-s) : Nat)]) := by
          show v32 _ = _
          rw [mk_succ zs s hlt]; unfold v32; rw [List.map_append]; rfl
        have HN : Hid (∀ X, Fresh w X → Calls Tryd.prog 16 #[.int .i8 (zs.getD j 0), .int .i64 s] X fun e w' => e = .returned (.tuple #[.int .u32 (nearB (zs.getD j 0) (-s) : Nat), .int .i64 0]) ∧ Fresh X w') := fun X h => by
          have := Scaled_any (zs.getD j 0) s X (Sing.fresh HS.out h) hzr
          unfold scB scE at this
          rw [if_pos ⟨s1, s2⟩, if_pos ⟨s1, s2⟩] at this
          exact this
        have HB := show Hid _ from big_succ zs hlt
        have hbn : w.heap.size ≤ wr.heap.size := hfr.size
        have hxl : (v32 (mk zs s j)).length = j := by unfold v32; rw [List.length_map, mk_len zs s (by omega)]
        obtain ⟨hz3, hz4⟩ := hzr
        clear hcell hcl hrange hno
        generalize nearB (zs.getD j 0) (-s) = N at *
        generalize zs.getD j 0 = z at *
        generalize v32 (mk zs s j) = xs at *
        generalize big zs j = B at *
        by_cases hm : z = -128
        · subst hm
          go_wp2_with fail
          refine (awake_any _ (HX.out _ hfr)).mono ?_
          rintro r w3 ⟨rfl, h3⟩
          go_wp2
          go_ret
          exact ⟨rfl, hfr.trans h3 (fun _ _ e => e)⟩
        · have hm' : (z == -128) = false := by simp [hm]
          have HO2 := show Hid _ from HO.out hm
          have H4 : (B = true ∧ big zs (j + 1) = true) ∨ (B = false ∧ decide (63 < z) = true ∧ big zs (j + 1) = true) ∨ (B = false ∧ decide (63 < z) = false ∧ decide (z < -63) = true ∧ big zs (j + 1) = true) ∨ (B = false ∧ decide (63 < z) = false ∧ decide (z < -63) = false ∧ big zs (j + 1) = false) := by
            rw [HB.out]
            cases B <;> cases decide (63 < z) <;> cases decide (z < -63) <;> simp
          clear HB HO hm
          rcases H4 with ⟨rfl, HB⟩ | ⟨rfl, d1, HB⟩ | ⟨rfl, d1, d2, HB⟩ | ⟨rfl, d1, d2, HB⟩
          all_goals
            replace HB := show Hid _ from HB
            go_wp2_with fail
            refine (HN.out _ hfr).mono ?_
            rintro r w4 ⟨rfl, h4⟩
            have hfr4 : Fresh w w4 := hfr.trans h4 (fun _ _ e => e)
            have hown4 := own_fresh hown h4
            have hbn4 : w.heap.size ≤ w4.heap.size := hfr4.size
            clear hown
            go_wp2_with (at_builtin; refine wpList_append_lies _ rfl _ _ _ rfl w.heap.size 22 i0 _ 1 4 Tryd.underlying27 hi hz0 hz1 hz2 rfl (by omega) _ _ _ rfl (hown4.alloc _) ⟨w4.heap.size, 0, none⟩ 1 1 [.int .u32 (N : Int)] rfl rfl (World.news_of_block (cs := #[.int .u32 (N : Int)]) (t := 22) (fr := (0, 0)) (heap_alloc_new w4 _)) (by simp [Value.oneCell']) (by omega) (by unfold maxLen; omega) (by omega) (by simp; omega) (w4.heap.size + 1) (by simp) ?_; intro g cap w1 hown1 hgrow hat hlt1)
            have r2 : Fresh w w1 := fresh_grown hfr4 hown4 (Nat.le_refl _) hgrow
            rw [← HM.out] at hown1
            clear hgrow hat hlt1
            go_roundw
            case rel => exact ⟨j + 1, by omega, by go_num, by rw [HB.out], HO2.out, hown1, r2⟩
            case measure => simp [intOf]; omega
      · obtain rfl : j = zs.length := by omega
        have HX : Hid (∀ X, Fresh w X → Sing X) := fun X h => Sing.fresh HS.out h
        rw [List.take_length] at hno
        have hz : ∀ z ∈ zs, -127 ≤ z ∧ z ≤ 127 := fun z h => by
          have h1 := hrange z h
          have h2 := hno z h
          omega
        by_cases hb : big zs zs.length = true
        · have hgr : ∃ z ∈ zs, 63 < z ∨ z < -63 := by
            unfold big at hb
            rw [List.take_length, List.any_eq_true] at hb
            obtain ⟨z, h1, h2⟩ := hb
            exact ⟨z, h1, by simpa using h2⟩
          rw [hb]
          have HK := show Hid _ from fun (e s' : Int) (zs' : List Int) (h : QnIs (zs.map fun z => nearB z (-s)) e s' zs') => keeps zs s ⟨s1, s2⟩ hz hgr h
          have hmk : mk zs s zs.length = zs.map fun z => nearB z (-s) := by unfold mk; rw [List.take_length]
          have hml := mk_len zs s (Nat.le_refl zs.length)
          rw [hmk] at hown hml
          have hbl : ∀ b ∈ zs.map (fun z => nearB z (-s)), b < 4294967296 := fun b h => by
            obtain ⟨z, h1, rfl⟩ := List.mem_map.1 h
            exact (made_near z s (hz z h1) ⟨s1, s2⟩).lt
          have HQ := show Hid _ from Quantise_own _ _ _ wr (HX.out _ hfr) (r32_of_own (bs := zs.map fun z => nearB z (-s)) (by rw [hml]; exact hown) (by omega) hbl)
          have HZ := show Hid _ from hrange
          clear hz hgr hb hmk hml hbl hno hown hcell hrange
          go_wp2_with fail
          refine Calls.mono HQ.out ?_
          rintro r w5 ⟨v, e, s', zs', hq, rfl, h5, hv⟩
          obtain ⟨rfl, rfl, rfl⟩ := HK.out _ _ _ hq
          have hfr5 : Fresh w w5 := hfr.trans h5 (fun _ _ e => e)
          have hrow : RowIs (fun k => wr.heap.size ≤ k) w5 v zs' := by
            rcases hv with ⟨rfl, rfl⟩ | ⟨g, _, _, ho⟩
            · exact ⟨none, 0, rfl, by simp, fun e => absurd rfl e, by simp, fun _ => rfl⟩
            · exact rowIs_of_own ho (by omega) HZ.out
          clear hq HK HQ hv
          go_wp2_with fail
          refine (awake_any _ (HX.out _ hfr5)).mono ?_
          rintro r w6 ⟨rfl, h6⟩
          have hfr6 : Fresh w w6 := hfr5.trans h6 (fun _ _ e => e)
          have hr6 := RowIs.kept HR.out hfr6 (fun _ _ e => e)
          have ho6 := RowIs.kept hrow h6 (fun _ _ e => e)
          go_wp2_with fail
          refine (rows_any _ _ _ _ _ _ _ ho6 hr6).mono ?_
          rintro r w7 ⟨rfl, n, h7⟩
          have hfr7 : Fresh w w7 := by rw [h7]; exact ⟨hfr6.os, hfr6.tape, hfr6.output, hfr6.size, hfr6.block⟩
          clear h7
          go_wp2
          go_ret
          exact ⟨by simp, hfr7⟩
        · have hb2 : big zs zs.length = false := by simpa using hb
          rw [hb2]
          clear hz hb hb2 hno hown hcell hrange
          go_wp2_with fail
          refine (awake_any _ (HX.out _ hfr)).mono ?_
          rintro r w3 ⟨rfl, h3⟩
          go_wp2
          go_ret
          exact ⟨rfl, hfr.trans h3 (fun _ _ e => e)⟩
  · have HS := show Hid _ from hS
    have HD : (decide (s < -64) = true) ∨ (decide (s < -64) = false ∧ decide (64 < s) = true) := by
      by_cases g : s < -64
      · exact .inl (decide_eq_true g)
      · exact .inr ⟨decide_eq_false g, decide_eq_true (by omega)⟩
    clear hs hr
    rcases HD with h | ⟨h, h2⟩
    · go_enter Tryd.func6, Tryd.ntmps6
      go_wp2_with fail
      refine (awake_any _ HS.out).mono ?_
      rintro r w3 ⟨rfl, h3⟩
      go_wp2
      go_ret
      exact ⟨rfl, h3⟩
    · go_enter Tryd.func6, Tryd.ntmps6
      go_wp2_with fail
      refine (awake_any _ HS.out).mono ?_
      rintro r w3 ⟨rfl, h3⟩
      go_wp2
      go_ret
      exact ⟨rfl, h3⟩

theorem contract (H : Type) (enc : TypeId × Value → H) (W : World) (base : Nat) (args : Array Value) (ds gs : List (DataW H)) (before : List MemPlace)
    (hval : ∀ (j : Nat) t v, Tryd.f6.params[j]? = some t → args[j]? = some v → Value.okWide Tryd.prog W .any base t v)
    (hW : DataW.Whole enc Tryd.prog Tryd.f6.params.toList Rows.singleKeepsSpec.vars false W args.toList ds gs before) (hbk : Rows.uptoSmall H (ds ++ gs) = true)
    (hsz : (DataW.weightsEach Tryd.prog (Tryd.f6.params.toList ++ []) (ds ++ gs)).all (· ≤ reachBytes) = true) (hL : laidMetH Tryd.prog Rows.singleKeepsRow.laid W) :
    Calls Tryd.prog 6 args W fun e W' => ∃ v, e = .returned v ∧ Rows.singleKeepsSpec.post enc Tryd.prog Tryd.f6 false true false false W args v W' := by
  have hW' := hW
  obtain ⟨p, q, hA0, hV, rfl, hfz, hnd⟩ := hW
  have hA : DataW.TrodAll enc Tryd.prog W 0 (fun _ => true) true Tryd.f6.params.toList args.toList ds p := hA0
  rw [Tryd.params6] at hA hval hsz
  obtain ⟨rfl, rfl⟩ := trodVars_none hV
  obtain ⟨v0, v1, d0, d1, p0, p1, rfl, rfl, rfl, h0, h1⟩ := trodAll_two hA
  obtain ⟨ao, ln, cap, rfl⟩ := okWide_slice Tryd.underlying28 (hval 0 28 v0 rfl rfl)
  obtain ⟨x1, rfl, rfl, rfl, w1⟩ := open_int Tryd.underlying3 (hval 1 3 v1 rfl rfl) h1
  obtain ⟨fuel, hf⟩ := h0
  obtain ⟨zs, hr, hd⟩ := row_of (x := (d0, p0)) hf (fun es sp e => by
    have e' : d0 = .slice es sp := e
    subst e'
    have := sized_slice hsz (j := 0) (t := 28) (e := 37) rfl rfl Tryd.underlying28
    rw [Tryd.b8] at this
    simp only [reachBytes] at this
    omega)
  have hbd := bulk_le hbk
  simp only [List.append_nil, Rows.uptoBulkAll] at hbd
  have hlen : zs.length ≤ 1048576 := by
    rcases hd with ⟨_, rfl⟩ | ⟨sp, hd⟩
    · simp
    · have hd' : d0 = .slice (lits .i8 zs) sp := hd
      subst hd'
      simp only [Rows.uptoBulk] at hbd
      have := bulk_length (H := H) (lits .i8 zs)
      rw [show (lits (H := H) .i8 zs).length = zs.length by simp [lits]] at this
      omega
  refine (walk _ zs x1 W (sing_of_laid hL (by simp [Rows.singleKeepsRow])) hr hlen).mono fun e W' ⟨he, hk⟩ => ?_
  subst he
  exact ⟨_, rfl, post_law rfl (by kernel_rfl) (by kernel_rfl) hW' rfl hk⟩

theorem laid_met (os : Os) : laidMet Tryd.prog Rows.singleKeepsUptoRow.laid ((layIn (World.holding Tryd.prog os ⟨#[], #[], []⟩)).forCall (fun _ _ => 0) ⟨#[], #[.slice none 0 0, .int .i64 0], []⟩).memory :=
  laidMet_of_run' 8 (by kernel_rfl) (by kernel_rfl)
theorem reads (os : Os) {H : Type} (enc : TypeId × Value → H) : ∃ places, DataW.whole enc Tryd.prog ((layIn (World.holding Tryd.prog os ⟨#[], #[], []⟩)).forCall (fun _ _ => 0) ⟨#[], #[.slice none 0 0, .int .i64 0], []⟩).memory Tryd.f6.params.toList Rows.singleKeepsSpec.vars false (#[.slice none 0 0, .int .i64 0] : Array Value).toList 8 = some ([.nil, .lit (.int .i64 0)], [], places) :=
  ⟨[], by kernel_rfl⟩

set_option maxRecDepth 100000 in
theorem lifted (os : Os) (started : os.Started) (H : Type) (enc : TypeId × Value → H) (F : Stop.Interp) :
    ReturnsInHanded {} Tryd.checked os 6 .any ((Rows.OpenSpec.upto Rows.singleKeepsSpec).preRow enc Tryd.prog Tryd.f6 Rows.singleKeepsUptoRow.domain false Rows.singleKeepsUptoRow.laid) (((Rows.OpenSpec.upto Rows.singleKeepsSpec).at F).post enc Tryd.prog Tryd.f6 false true false false) := by
  obtain ⟨places, hx⟩ := reads os enc
  refine returnsInHanded_of_row (C := Tryd.checked) (s := Rows.OpenSpec.upto Rows.singleKeepsSpec) Tryd.own started (by kernel_rfl) Tryd.func6
    (witness_row_at (enc := enc) (C := Tryd.checked) false (layIn (World.holding Tryd.prog os ⟨#[], #[], []⟩)) #[.slice none 0 0, .int .i64 0] rfl (by kernel_rfl) (by kernel_rfl) (by kernel_rfl)
      (OpenSpec.preRow_of_cond 8 hx (by kernel_rfl) (fun k hk => by cases hk; kernel_rfl) (by kernel_rfl) (laid_met os))) ?_
  intro W base args ds gs before hval hW _ hc hsz hL _ _
  exact contract H enc W base args ds gs before hval hW (hc _ rfl) hsz hL

theorem said : Rows.SingleKeepsUptoSaid :=
  OpenClaim.holds_of_cond 6 Tryd.f6 rfl rfl rfl rfl rfl rfl rfl ⟨rfl, rfl, rfl, rfl, rfl⟩ rfl rfl rfl rfl rfl (by kernel_rfl) Tryd.func6 (by kernel_rfl)
    (of_decide_eq_true (by kernel_rfl)) (by unfold Func.isWrapper; first | (rw [if_pos (by decide +kernel)]; kernel_rfl) | (rw [if_neg (by decide +kernel)]; exact ⟨rfl, rfl⟩))
    (fun os started H enc _ F => by rw [OpenClaim.pre_eq_preRow]; exact lifted os started H enc F)

theorem plain (f : FuncId) (fn : Func) (hf : Tryd.pinned.checked.prog.funcNamed Rows.singleKeepsUptoRow.func = some f) (hfn : Tryd.pinned.checked.prog.funcs[f]? = some fn) :
    false = Tryd.pinned.checked.prog.looks [] ∧ ∀ (j : Nat) t, fn.params[j]? = some t → Tryd.pinned.checked.prog.wantsStandIn t = false := by
  obtain rfl : f = 6 := Option.some.inj ((show Tryd.prog.funcNamed Rows.singleKeepsUptoRow.func = some 6 by kernel_rfl).symm.trans hf) |>.symm
  obtain rfl : fn = Tryd.f6 := (Option.some.inj (Tryd.func6.symm.trans hfn)).symm
  refine ⟨by kernel_rfl, fun j t ht => ?_⟩
  have hall : (Tryd.f6.params.toList.all fun u => !Tryd.prog.wantsStandIn u) = true := by kernel_rfl
  exact (show Tryd.prog.wantsStandIn t = false by simpa using List.all_eq_true.1 hall t (Array.mem_toList_iff.2 (Array.mem_of_getElem? ht)))

theorem card : Rows.SingleKeepsUptoCardSaid :=
  Claim7.holds_tied_plain_at .later [] _ _ _ _ said (fun _ h => by cases h) (by kernel_rfl) (fun _ h => by cases h) singleKeepsUpto_row_tie rfl ⟨rfl, rfl⟩ (by kernel_rfl) rfl plain (by kernel_rfl)

end Go.Proofs.YtagbjlkpmjbfnabDoor.LKeeps
namespace Go.Proofs.YtagbjlkpmjbfnabDoor
theorem singleKeeps_card : Rows.SingleKeepsUptoCardSaid := LKeeps.card
end Go.Proofs.YtagbjlkpmjbfnabDoor
