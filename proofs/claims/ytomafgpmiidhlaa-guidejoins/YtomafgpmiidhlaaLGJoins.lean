/-
  For every guide, state and two texts the statement GuideJoins answers true: the texts joined lead where the second leads from where the first does; awake does; the guide is as it was.
-/
import Derived.Test.YtomafgpmiidhlaaGus
namespace Go.Proofs.Ytomafgpmiidhlaa.GJoins
open Go.ChangeShapes Go.WideShapes Go.ChangeAt Go.RowKit Go.Lib Go.Maps

theorem wl_low {A : List Bool} {E : List Ed} {s : Int} {a : List UInt8} (b : List UInt8) (h : wlF A E s a < 0) : wlF A E s (a ++ b) < 0 := by
  unfold wlF at *
  by_cases h1 : chE A E = 0 ∧ 0 ≤ s ∧ s < ((nA A).length : Int)
  · rw [if_pos h1] at h ⊢
    have hr := wkF_range (mF_range (chE_zero h1.1).2.2.1) a s (.inr h1.2)
    have e : wkF (mF A E) s a = -1 := by omega
    rw [wkF_append, e, wkF_dead]
    omega
  · rw [if_neg h1]
    omega
theorem wl_high {A : List Bool} {E : List Ed} {s : Int} {a : List UInt8} (b : List UInt8) (h : ¬ wlF A E s a < 0) : wlF A E s (a ++ b) = wlF A E (wlF A E s a) b := by
  unfold wlF at h
  by_cases h1 : chE A E = 0 ∧ 0 ≤ s ∧ s < ((nA A).length : Int)
  · rw [if_pos h1] at h
    have hr := wkF_range (mF_range (chE_zero h1.1).2.2.1) a s (.inr h1.2)
    have e1 : wlF A E s a = wkF (mF A E) s a := if_pos h1
    have e2 : wlF A E s (a ++ b) = wkF (mF A E) s (a ++ b) := if_pos h1
    have e3 : wlF A E (wkF (mF A E) s a) b = wkF (mF A E) (wkF (mF A E) s a) b := if_pos ⟨h1.1, by omega, by omega⟩
    rw [e1, e2, e3, wkF_append]
  · rw [if_neg h1] at h
    omega
set_option maxHeartbeats 500000 in
set_option maxRecDepth 100000 in
theorem walk {p : Nat → Prop} (w : World) (acv edv : Value) (A : List Bool) (E : List Ed) (hA : RbL p w acv A) (hE : EdR p w edv E) (s : Int) (a b : ByteArray) (ha : a.size ≤ 140737488355328) (hb : b.size ≤ 140737488355328) :
    Calls Try.prog 8 #[.agg #[acv, edv], zV s, .agg #[.string a, .string b]] w fun e w' => e = .returned (.bool true) ∧ Fresh w w' := by
  have hF1 : Fresh w (w.alloc (.cells #[acv, edv] 25)) := (Kept.refl _ w).alloc _
  have hbx := heap_alloc_new w (.cells #[acv, edv] 25)
  have HW : Hid (∀ (X : World) (x : Int) (t : ByteArray), t.size ≤ 9223372036854775000 → Fresh w X → Calls Try.prog 16 #[.agg #[acv, edv], zV x, .string t] X fun e w' => e = .returned (zV (wlF A E x t.data.toList)) ∧ Fresh X w') := fun X x t ht hk => walk_any A E acv edv X (hA.fresh hk) (hE.fresh hk) x t ht
  obtain ⟨ao, ac, rfl⟩ := hA.shape
  obtain ⟨eo, ec, rfl⟩ := hE.shape
  have HF1 := show Hid _ from hF1
  have HBX := show Hid _ from hbx
  clear hA hE hF1 hbx
  have HAB : Hid (∀ Z, Z = a ++ b → Z.size ≤ 9223372036854775000 ∧ Z.data.toList = a.data.toList ++ b.data.toList) := fun Z hZ => by
    rw [hZ]
    refine ⟨by rw [ByteArray.size_append]; omega, by rw [ByteArray.data_append, Array.toList_append]⟩
  have Ha : Hid (a.size ≤ 9223372036854775000) := by show _ ≤ _; omega
  have Hb : Hid (b.size ≤ 9223372036854775000) := by show _ ≤ _; omega
  generalize A.length = n at *
  generalize E.length = k at *
  go_enter Try.func8, Try.ntmps8
  go_wp2
  go_quiet (fail)
  have HX0 : Hid (∀ X, Fresh (((w.alloc (.cells #[.slice ao n ac, .slice eo k ec] 25)).alloc (.cells #[.string a, .string b] 66)).drewN nq) X → Fresh w X ∧ X.cell? ⟨w.heap.size, 0, none⟩ = some (.slice ao n ac) ∧ X.cell? ⟨w.heap.size, 1, none⟩ = some (.slice eo k ec)) := fun X hk => by
    have h1 : Fresh (w.alloc (.cells #[.slice ao n ac, .slice eo k ec] 25)) X := (((Kept.refl (fun _ => False) _).alloc _).drewN nq).trans hk (fun _ _ e => e)
    have h2 := h1.at HBX.out (fun e => e)
    exact ⟨HF1.out.trans h1 (fun _ _ e => e), by rw [Lib.cell_of_heap h2]; rfl, by rw [Lib.cell_of_heap h2]; rfl⟩
  clear HBX HF1
  generalize ((w.alloc (.cells #[.slice ao n ac, .slice eo k ec] 25)).alloc (.cells #[.string a, .string b] 66)).drewN nq = W2 at *
  obtain ⟨hf2, x0, x1⟩ := HX0.out W2 (Kept.refl _ _)
  have HC1 := show Hid _ from HW.out W2 s a Ha.out hf2
  have HC2 := show Hid _ from fun X hk => HW.out X s (a ++ b) (HAB.out _ rfl).1 hk
  rw [(HAB.out _ rfl).2] at HC2
  clear hf2
  have HL1 : Hid (wlF A E s a.data.toList < 0 → wlF A E s (a.data.toList ++ b.data.toList) < 0) := wl_low _
  have HL2 : Hid (¬ wlF A E s a.data.toList < 0 → wlF A E s (a.data.toList ++ b.data.toList) = wlF A E (wlF A E s a.data.toList) b.data.toList) := wl_high _
  have HC3 := show Hid _ from fun X hk => HW.out X (wlF A E s a.data.toList) b Hb.out hk
  generalize wlF A E s (a.data.toList ++ b.data.toList) = z at *
  generalize wlF A E (wlF A E s a.data.toList) b.data.toList = y at *
  generalize wlF A E s a.data.toList = x at *
  clear HW
  go_wp2_with fail
  refine Calls.mono HC1.out ?_
  rintro e X1 ⟨rfl, hf1⟩
  obtain ⟨hx1, x0, x1⟩ := HX0.out X1 hf1
  have HF1 : Hid (Fresh W2 X1) := hf1
  have HC2' := show Hid _ from HC2.out X1 hx1
  clear HC1 HC2 hf1 hx1
  go_wp2_with fail
  refine Calls.mono HC2'.out ?_
  rintro e X2 ⟨rfl, hf2⟩
  have HF2 : Hid (Fresh W2 X2) := HF1.out.trans hf2 (fun _ _ e => e)
  clear HC2' HF1 hf2 x0 x1
  have HAW := show Hid _ from awakeG_any X2
  by_cases hx : x < 0
  · have hz : z < 0 := HL1.out hx
    clear HL1 HL2 HC3
    go_wp2_with fail
    refine Calls.mono HAW.out ?_
    rintro e X3 ⟨rfl, hf3⟩
    obtain ⟨hx3, _⟩ := HX0.out X3 (HF2.out.trans hf3 (fun _ _ e => e))
    have HF3 := show Hid _ from hx3
    clear hf3 hx3
    go_wp2
    go_ret
    exact ⟨rfl, HF3.out⟩
  · have hz : z = y := HL2.out (by omega)
    subst hz
    clear HL1 HL2
    go_wp2_with fail
    refine Calls.mono HAW.out ?_
    rintro e X3 ⟨rfl, hf3⟩
    obtain ⟨hx3, x0, x1⟩ := HX0.out X3 (HF2.out.trans hf3 (fun _ _ e => e))
    have HC := show Hid _ from HC3.out X3 hx3
    have HF3 := show Hid _ from hx3
    clear hf3 hx3 HC3 HF2 HAW
    go_wp2_with fail
    refine Calls.mono HC.out ?_
    rintro e X4 ⟨rfl, hf4⟩
    have HF4 : Hid (Fresh w X4) := HF3.out.trans hf4 (fun _ _ e => e)
    clear HC hf4
    have hzz : (z == z) = true := beq_self_eq_true _
    go_wp2
    go_ret
    exact ⟨rfl, HF4.out⟩
set_option maxRecDepth 100000 in
theorem two_of {H : Type} {enc : TypeId × Value → H} {W : World} {r : Reach} {b0 : Nat} {v : Value} {d : DataW H} {p : List MemPlace} {ts : List TypeId} {ds : List (DataW H)} {j : Nat} (hv : Value.okWide Try.prog W r b0 66 v) (h : DataW.Trod enc Try.prog W 0 (fun _ => true) true 66 v d p)
    (hsz : (DataW.weightsEach Try.prog ts ds).all (· ≤ reachBytes) = true) (ht : ts[j]? = some 66) (hd : ds[j]? = some d) :
    ∃ a b : ByteArray, v = .agg #[.string a, .string b] ∧ a.size ≤ 140737488355328 ∧ b.size ≤ 140737488355328 := by
  obtain ⟨cs, rfl, hcs⟩ := okWide_struct Try.underlying66 hv
  obtain ⟨v0, v1, rfl⟩ := arr2g (hcs.trans (by kernel_rfl))
  obtain ⟨fuel, hf⟩ := h
  obtain ⟨xs, n, _, hx, hl, hlen, hfs⟩ := DataW.trod_struct Try.underlying66 hf
  obtain ⟨y0, y1, rfl⟩ := list2g (l := xs) hlen
  simp only [Prod.mk.injEq, List.map_cons, List.map_nil] at hx
  obtain ⟨rfl, rfl⟩ := hx
  have hg := sized_field hsz ht hd Try.underlying66
  have c8 : Try.prog.cellsOf 9 = 1 := by kernel_rfl
  have q0 : DataW.trod enc Try.prog W 0 (fun _ => true) true n 9 [v0] = some y0 := by simpa [Value.cells, c8] using hfs 0 _ rfl
  have q1 : DataW.trod enc Try.prog W 0 (fun _ => true) true n 9 [v1] = some y1 := by simpa [Value.cells, c8] using hfs 1 _ rfl
  obtain ⟨a, ea, xa, ha⟩ := DataW.trod_string Try.underlying9 q0
  obtain ⟨b, eb, xb, hb⟩ := DataW.trod_string Try.underlying9 q1
  simp only [List.cons.injEq, and_true] at ea eb
  subst ea eb
  refine ⟨a, b, rfl, ?_, ?_⟩
  · have := sized_string hg (j := 0) (t := 9) (bytes := a.data.toList) rfl (by rw [xa]; rfl)
    rw [← Lib.size_eq] at this
    simp only [reachBytes] at this
    omega
  · have := sized_string hg (j := 1) (t := 9) (bytes := b.data.toList) rfl (by rw [xb]; rfl)
    rw [← Lib.size_eq] at this
    simp only [reachBytes] at this
    omega

set_option maxRecDepth 100000 in
theorem contract (H : Type) (enc : TypeId × Value → H) (W : World) (base : Nat) (args : Array Value) (ds gs : List (DataW H)) (before : List MemPlace)
    (hval : ∀ (j : Nat) t v, Try.f8.params[j]? = some t → args[j]? = some v → Value.okWide Try.prog W .any base t v)
    (hW : DataW.Whole enc Try.prog Try.f8.params.toList Rows.guideJoinsSpec.vars false W args.toList ds gs before) 
    (hsz : (DataW.weightsEach Try.prog (Try.f8.params.toList ++ []) (ds ++ gs)).all (· ≤ reachBytes) = true) (hL : laidMetH Try.prog Rows.guideJoinsRow.laid W) :
    Calls Try.prog 8 args W fun e W' => ∃ v, e = .returned v ∧ Rows.guideJoinsSpec.post enc Try.prog Try.f8 false true false false W args v W' := by
  have hW' := hW
  obtain ⟨p, q, hA0, hV, rfl, hfz, hnd⟩ := hW
  have hA : DataW.TrodAll enc Try.prog W 0 (fun _ => true) true Try.f8.params.toList args.toList ds p := hA0
  rw [Try.params8] at hA hval hsz
  obtain ⟨rfl, rfl⟩ := trodVars_none hV
  have _hL := hL
  obtain ⟨v0, v1, v2, d0, d1, d2, p0, p1, p2, rfl, rfl, rfl, h0, h1, h2⟩ := trodAll_three hA
  obtain ⟨acv, edv, A, E, rfl, hA', hE'⟩ := guide_of (hval 0 25 v0 rfl rfl) h0 hsz (j := 0) rfl rfl
  obtain ⟨x1, rfl, rfl, rfl, w1⟩ := open_int Try.underlying3 (hval 1 3 v1 rfl rfl) h1
  obtain ⟨a, b, rfl, ha, hb⟩ := two_of (hval 2 66 v2 rfl rfl) h2 hsz (j := 2) rfl rfl
  refine (walk W acv edv A E hA' hE' x1 a b ha hb).mono fun e W' ⟨he, hk⟩ => ?_
  subst he
  exact ⟨_, rfl, post_law rfl (by kernel_rfl) (by kernel_rfl) hW' rfl hk⟩

set_option maxRecDepth 100000 in
theorem laid_met (os : Os) : laidMet Try.prog Rows.guideJoinsRow.laid ((layIn (World.holding Try.prog os ⟨#[], #[], []⟩)).forCall (fun _ _ => 0) ⟨#[], #[.agg #[.slice none 0 0, .slice none 0 0], .int .i64 0, .agg #[.string ⟨#[]⟩, .string ⟨#[]⟩]], []⟩).memory :=
  laidMet_of_run' 8 (by kernel_rfl) (by kernel_rfl)
set_option maxRecDepth 100000 in
theorem reads (os : Os) {H : Type} (enc : TypeId × Value → H) : ∃ places, DataW.whole enc Try.prog ((layIn (World.holding Try.prog os ⟨#[], #[], []⟩)).forCall (fun _ _ => 0) ⟨#[], #[.agg #[.slice none 0 0, .slice none 0 0], .int .i64 0, .agg #[.string ⟨#[]⟩, .string ⟨#[]⟩]], []⟩).memory Try.f8.params.toList Rows.guideJoinsSpec.vars false (#[.agg #[.slice none 0 0, .slice none 0 0], .int .i64 0, .agg #[.string ⟨#[]⟩, .string ⟨#[]⟩]] : Array Value).toList 8 = some ([.agg [.nil, .nil], .lit (.int .i64 0), .agg [.lit (.string []), .lit (.string [])]], [], places) :=
  ⟨[], by kernel_rfl⟩

set_option maxRecDepth 100000 in
theorem lifted (os : Os) (started : os.Started) (H : Type) (enc : TypeId × Value → H) (F : Stop.Interp) :
    ReturnsInHanded {} Try.checked os 8 .any ((OpenSpec.ofChange Rows.guideJoinsSpec).preRow enc Try.prog Try.f8 Rows.guideJoinsRow.domain false Rows.guideJoinsRow.laid) (((OpenSpec.ofChange Rows.guideJoinsSpec).at F).post enc Try.prog Try.f8 false true false false) := by
  obtain ⟨places, hx⟩ := reads os enc
  refine returnsInHanded_of_row (C := Try.checked) (s := OpenSpec.ofChange Rows.guideJoinsSpec) Try.own started (by kernel_rfl) Try.func8
    (witness_row_at (enc := enc) (C := Try.checked) false (layIn (World.holding Try.prog os ⟨#[], #[], []⟩)) #[.agg #[.slice none 0 0, .slice none 0 0], .int .i64 0, .agg #[.string ⟨#[]⟩, .string ⟨#[]⟩]] rfl (by kernel_rfl) (by kernel_rfl) (by kernel_rfl)
      (OpenSpec.preRow_of_cond 8 hx (by kernel_rfl) (fun k hk => by cases hk) (by kernel_rfl) (laid_met os))) ?_
  intro W base args ds gs before hval hW _ hc hsz hL _ _
  exact contract H enc W base args ds gs before hval hW hsz hL

theorem said : Rows.GuideJoinsSaid :=
  OpenClaim.holds_of_cond 8 Try.f8 rfl rfl rfl rfl rfl rfl rfl ⟨rfl, rfl, rfl, rfl, rfl⟩ rfl rfl rfl rfl rfl (by kernel_rfl) Try.func8 (by kernel_rfl)
    (of_decide_eq_true (by kernel_rfl)) (by unfold Func.isWrapper; first | (rw [if_pos (by decide +kernel)]; kernel_rfl) | (rw [if_neg (by decide +kernel)]; exact ⟨rfl, rfl⟩))
    (fun os started H enc _ F => by rw [OpenClaim.pre_eq_preRow]; exact lifted os started H enc F)


end Go.Proofs.Ytomafgpmiidhlaa.GJoins
namespace Go.Proofs.Ytomafgpmiidhlaa
theorem guideJoins_holds : Rows.GuideJoinsSaid := GJoins.said
end Go.Proofs.Ytomafgpmiidhlaa
