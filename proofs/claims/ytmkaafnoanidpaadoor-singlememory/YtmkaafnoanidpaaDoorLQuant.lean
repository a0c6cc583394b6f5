/-
  For all rows of bits the statement SingleQuantises answers true: awake does, Quantise answers as the document says, and the row stays; its card, tied to the program's text.
-/
import Derived.Test.YtmkaafnoanidpaaDoorR3
import Derived.Test.YtmkaafnoanidpaaDoorQq
import Derived.Test.YtmkaafnoanidpaaDoorQx
import Derived.Test.YtmkaafnoanidpaaDoorLaV
namespace Go.Proofs.YtmkaafnoanidpaaDoor.LQuant
open Go.ChangeShapes Go.WideShapes Go.ChangeAt Go.RowKit R3

theorem sc_unique {g : Nat} {s t : Int} (h : IsSc g s) (k : IsSc g t) : s = t := by
  rcases h with ⟨a, rfl⟩ | ⟨a, a1, a2, a3, a4⟩ <;> rcases k with ⟨b, rfl⟩ | ⟨b, b1, b2, b3, b4⟩
  · rfl
  · exact absurd a b
  · exact absurd b a
  · rcases Int.lt_trichotomy s t with c | c | c
    · have := a4 t c b2
      omega
    · exact c
    · have := b4 s c a2
      omega
theorem qn_unique {bs : List Nat} {e s e' s' : Int} {zs zs' : List Int} (h : QnIs bs e s zs) (k : QnIs bs e' s' zs') : e = e' ∧ s = s' ∧ zs = zs' := by
  rcases h with ⟨a, rfl, rfl, rfl⟩ | ⟨a, a0, a1, rfl, rfl, rfl⟩ | ⟨a, a1, rfl, rfl⟩ <;> rcases k with ⟨b, rfl, rfl, rfl⟩ | ⟨b, b0, b1, rfl, rfl, rfl⟩ | ⟨b, b1, rfl, rfl⟩
  · exact ⟨rfl, rfl, rfl⟩
  · omega
  · omega
  · omega
  · exact ⟨rfl, rfl, rfl⟩
  · rcases b1 with ⟨c, _⟩ | ⟨_, c1, c2, c3, _⟩
    · exact absurd c a0
    · have := a1 _ c1 c2
      omega
  · omega
  · rcases a1 with ⟨c, _⟩ | ⟨_, c1, c2, c3, _⟩
    · exact absurd c b0
    · have := b1 _ c1 c2
      omega
  · obtain rfl := sc_unique a1 b1
    exact ⟨rfl, rfl, rfl⟩
theorem qn_range {bs : List Nat} {e s : Int} {zs : List Int} (h : QnIs bs e s zs) : zs.length ≤ bs.length ∧ ∀ z ∈ zs, -128 ≤ z ∧ z ≤ 127 := by
  rcases h with ⟨_, _, _, rfl⟩ | ⟨_, _, _, _, _, rfl⟩ | ⟨a, a1, _, rfl⟩
  · exact ⟨by simp, by simp⟩
  · exact ⟨by simp, by simp⟩
  · refine ⟨by simp, fun z hz => ?_⟩
    obtain ⟨b, hb, rfl⟩ := List.mem_map.1 hz
    have := ((room_all a a1).2 b hb).2
    unfold q8 sgnI
    split <;> omega

set_option maxHeartbeats 1000000 in
set_option maxRecDepth 100000 in
theorem walk (rv : Value) (bs : List Nat) (w : World) (hS : Sing w) (hr : R32 (fun b => b < w.heap.size) w rv bs) :
    Calls Tryd.prog 4 #[rv] w fun r w' => r = .returned (.bool true) ∧ Fresh w w' := by
  have HS := show Hid _ from hS
  have hzz := hr
  obtain ⟨ao, cap, rfl, hl, _, hz, _⟩ := hzz
  obtain ⟨tv, W1, hrun, hown1, hgrow⟩ := twin32 27 _ w.heap.size _ (own32_empty w) (by simp) _ bs _ (hr.kept ((Kept.refl (fun _ => False) _).alloc _) (fun _ _ e => e))
  have hkW : Fresh w W1 := ((Kept.refl _ _).alloc _).grown hgrow (fun k hk e => by simp [Value.ownBlock] at e; omega)
  have htw := r32_of_own hown1 hl hz
  have HR := show Hid _ from hr
  have HT := show Hid _ from htw
  have HZ := show Hid _ from hz
  clear hown1 hgrow htw hr hz hS
  go_enter Tryd.func4, Tryd.ntmps4
  go_wp2_with (at_builtin; refine Lib.wpList_append_run _ rfl _ _ _ _ rfl _ _ rfl rfl _ _ hrun ?_)
  clear hrun
  refine (Quantise_own _ _ _ _ (Sing.fresh HS.out hkW) (R32.kept HR.out hkW (fun _ _ e => e))).mono ?_
  rintro r w2 ⟨v, e, s, zs, hq, rfl, h2, hv⟩
  have hfr2 : Fresh w w2 := hkW.trans h2 (fun _ _ e => e)
  have hqr := qn_range hq
  have hrow : RowIs (fun _ => True) w2 v zs := by
    rcases hv with ⟨rfl, rfl⟩ | ⟨g, _, _, ho⟩
    · exact ⟨none, 0, rfl, by simp, fun e => absurd rfl e, by simp, fun _ => rfl⟩
    · exact RowIs.mono (rowIs_of_own ho (by omega) hqr.2) (fun _ _ => trivial)
  have HRow := show Hid _ from hrow
  have HQ := show Hid _ from hq
  have HQR := show Hid _ from hqr
  clear hv hrow hq hqr
  go_wp2_with fail
  refine (refQuantise_own _ _ _ _ (R32.kept HT.out h2 (fun _ _ e => e))).mono ?_
  rintro r w3 ⟨v', e', s', zs', hq', rfl, h3, ho'⟩
  obtain ⟨rfl, rfl, rfl⟩ := qn_unique HQ.out hq'
  have hfr3 : Fresh w w3 := hfr2.trans h3 (fun _ _ e => e)
  have HRow' : Hid (RowIs (fun _ => True) w3 v' zs) := RowIs.mono (rowIs_of_own ho' (by have := HQR.out.1; omega) HQR.out.2) (fun _ _ => trivial)
  have HRow3 : Hid (RowIs (fun _ => True) w3 v zs) := RowIs.kept HRow.out h3 (fun _ _ e => e)
  clear hq' ho'
  go_wp2_with fail
  refine (awake_any _ (Sing.fresh HS.out hfr3)).mono ?_
  rintro r w4 ⟨rfl, h4⟩
  have hfr4 : Fresh w w4 := hfr3.trans h4 (fun _ _ e => e)
  go_wp2_with fail
  refine (rows_any _ _ _ _ _ _ _ (RowIs.kept HRow3.out h4 (fun _ _ e => e)) (RowIs.kept HRow'.out h4 (fun _ _ e => e))).mono ?_
  rintro r w5 ⟨rfl, n, h5⟩
  have hd : decide (zs = zs) = true := by simp
  rw [hd]
  have h5' : Fresh w4 w5 := by rw [h5]; exact ⟨rfl, rfl, rfl, Nat.le_refl _, fun _ _ _ => rfl⟩
  clear h5
  have hfr5 : Fresh w w5 := hfr4.trans h5' (fun _ _ e => e)
  have h15 : Fresh W1 w5 := ((h2.trans h3 (fun _ _ e => e)).trans h4 (fun _ _ e => e)).trans h5' (fun _ _ e => e)
  go_wp2_with fail
  refine (bits_any _ _ _ _ _ _ _ (R32.kept HR.out hfr5 (fun _ _ e => e)) (R32.kept HT.out h15 (fun _ _ e => e))).mono ?_
  rintro r w6 ⟨rfl, n6, h6⟩
  have hfr6 : Fresh w w6 := by rw [h6]; exact ⟨hfr5.os, hfr5.tape, hfr5.output, hfr5.size, hfr5.block⟩
  clear h6
  go_wp2
  go_ret
  exact ⟨by simp, hfr6⟩

theorem contract (H : Type) (enc : TypeId × Value → H) (W : World) (base : Nat) (args : Array Value) (ds gs : List (DataW H)) (before : List MemPlace)
    (hval : ∀ (j : Nat) t v, Tryd.f4.params[j]? = some t → args[j]? = some v → Value.okWide Tryd.prog W .any base t v)
    (hW : DataW.Whole enc Tryd.prog Tryd.f4.params.toList Rows.singleQuantisesSpec.vars false W args.toList ds gs before) 
    (hsz : (DataW.weightsEach Tryd.prog (Tryd.f4.params.toList ++ []) (ds ++ gs)).all (· ≤ reachBytes) = true) (hL : laidMetH Tryd.prog Rows.singleQuantisesRow.laid W) :
    Calls Tryd.prog 4 args W fun e W' => ∃ v, e = .returned v ∧ Rows.singleQuantisesSpec.post enc Tryd.prog Tryd.f4 false true false false W args v W' := by
  have hW' := hW
  obtain ⟨p, q, hA0, hV, rfl, hfz, hnd⟩ := hW
  have hA : DataW.TrodAll enc Tryd.prog W 0 (fun _ => true) true Tryd.f4.params.toList args.toList ds p := hA0
  rw [Tryd.params4] at hA hval hsz
  obtain ⟨rfl, rfl⟩ := trodVars_none hV
  obtain ⟨v0, d0, rfl, rfl, h0⟩ := trodAll_one hA
  obtain ⟨ao, ln, cap, rfl⟩ := okWide_slice Tryd.underlying27 (hval 0 27 v0 rfl rfl)
  obtain ⟨fuel, hf⟩ := h0
  obtain ⟨bs, hr⟩ := r32_of (x := (d0, _)) hf (fun es sp e => by
    have e' : d0 = .slice es sp := e
    subst e'
    have := sized_slice hsz (j := 0) (t := 27) (e := 22) rfl rfl Tryd.underlying27
    rw [Tryd.b32] at this
    simp only [reachBytes] at this
    omega)
  refine (walk _ bs W (sing_of_laid hL (by simp [Rows.singleQuantisesRow])) hr).mono fun e W' ⟨he, hk⟩ => ?_
  subst he
  exact ⟨_, rfl, post_law rfl (by kernel_rfl) (by kernel_rfl) hW' rfl hk⟩

theorem laid_met (os : Os) : laidMet Tryd.prog Rows.singleQuantisesRow.laid ((layIn (World.holding Tryd.prog os ⟨#[], #[], []⟩)).forCall (fun _ _ => 0) ⟨#[], #[.slice none 0 0], []⟩).memory :=
  laidMet_of_run' 8 (by kernel_rfl) (by kernel_rfl)
theorem reads (os : Os) {H : Type} (enc : TypeId × Value → H) : ∃ places, DataW.whole enc Tryd.prog ((layIn (World.holding Tryd.prog os ⟨#[], #[], []⟩)).forCall (fun _ _ => 0) ⟨#[], #[.slice none 0 0], []⟩).memory Tryd.f4.params.toList Rows.singleQuantisesSpec.vars false (#[.slice none 0 0] : Array Value).toList 8 = some ([.nil], [], places) :=
  ⟨[], by kernel_rfl⟩

set_option maxRecDepth 100000 in
theorem lifted (os : Os) (started : os.Started) (H : Type) (enc : TypeId × Value → H) (F : Stop.Interp) :
    ReturnsInHanded {} Tryd.checked os 4 .any ((OpenSpec.ofChange Rows.singleQuantisesSpec).preRow enc Tryd.prog Tryd.f4 Rows.singleQuantisesRow.domain false Rows.singleQuantisesRow.laid) (((OpenSpec.ofChange Rows.singleQuantisesSpec).at F).post enc Tryd.prog Tryd.f4 false true false false) := by
  obtain ⟨places, hx⟩ := reads os enc
  refine returnsInHanded_of_row (C := Tryd.checked) (s := OpenSpec.ofChange Rows.singleQuantisesSpec) Tryd.own started (by kernel_rfl) Tryd.func4
    (witness_row_at (enc := enc) (C := Tryd.checked) false (layIn (World.holding Tryd.prog os ⟨#[], #[], []⟩)) #[.slice none 0 0] rfl (by kernel_rfl) (by kernel_rfl) (by kernel_rfl)
      (OpenSpec.preRow_of_cond 8 hx (by kernel_rfl) (fun k hk => by cases hk) (by kernel_rfl) (laid_met os))) ?_
  intro W base args ds gs before hval hW _ hc hsz hL _ _
  exact contract H enc W base args ds gs before hval hW hsz hL

theorem said : Rows.SingleQuantisesSaid :=
  OpenClaim.holds_of_cond 4 Tryd.f4 rfl rfl rfl rfl rfl rfl rfl ⟨rfl, rfl, rfl, rfl, rfl⟩ rfl rfl rfl rfl rfl (by kernel_rfl) Tryd.func4 (by kernel_rfl)
    (of_decide_eq_true (by kernel_rfl)) (by unfold Func.isWrapper; first | (rw [if_pos (by decide +kernel)]; kernel_rfl) | (rw [if_neg (by decide +kernel)]; exact ⟨rfl, rfl⟩))
    (fun os started H enc _ F => by rw [OpenClaim.pre_eq_preRow]; exact lifted os started H enc F)

theorem plain (f : FuncId) (fn : Func) (hf : Tryd.pinned.checked.prog.funcNamed Rows.singleQuantisesRow.func = some f) (hfn : Tryd.pinned.checked.prog.funcs[f]? = some fn) :
    false = Tryd.pinned.checked.prog.looks [] ∧ ∀ (j : Nat) t, fn.params[j]? = some t → Tryd.pinned.checked.prog.wantsStandIn t = false := by
  obtain rfl : f = 4 := Option.some.inj ((show Tryd.prog.funcNamed Rows.singleQuantisesRow.func = some 4 by kernel_rfl).symm.trans hf) |>.symm
  obtain rfl : fn = Tryd.f4 := (Option.some.inj (Tryd.func4.symm.trans hfn)).symm
  refine ⟨by kernel_rfl, fun j t ht => ?_⟩
  have hall : (Tryd.f4.params.toList.all fun u => !Tryd.prog.wantsStandIn u) = true := by kernel_rfl
  exact (show Tryd.prog.wantsStandIn t = false by simpa using List.all_eq_true.1 hall t (Array.mem_toList_iff.2 (Array.mem_of_getElem? ht)))

theorem card : Rows.SingleQuantisesCardSaid :=
  Claim7.holds_tied_plain_at .later [] _ _ _ _ said (fun _ h => by cases h) (by kernel_rfl) (fun _ h => by cases h) singleQuantises_row_tie rfl ⟨rfl, rfl⟩ (by kernel_rfl) rfl plain (by kernel_rfl)

end Go.Proofs.YtmkaafnoanidpaaDoor.LQuant
namespace Go.Proofs.YtmkaafnoanidpaaDoor
theorem singleQuantises_card : Rows.SingleQuantisesCardSaid := LQuant.card
end Go.Proofs.YtmkaafnoanidpaaDoor
