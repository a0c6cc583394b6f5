/-
  For every string the statement NatParses answers true: awake does, Parse answers as the document says, and what it reads has the text that it was read from; its card, tied to the program's text.
-/
import Derived.Test.YtdmjfmipalifpaaGreatDoorNl
import Derived.Test.YtdmjfmipalifpaaGreatDoorIsa
import Derived.Test.YtdmjfmipalifpaaGreatDoorRgb
import Derived.Deep.DeepWitnessRowRef
namespace Go.Proofs.YtdmjfmipalifpaaGreatDoor.LParses
open Go.ChangeShapes Go.WideShapes Go.ChangeAt Go.RowKit

/-- What was read has its own text. -/
theorem text_back {s : ByteArray} (h : prE s.data.toList = 0) : sB (Lib.decDigits (prN s.data.toList)) = s := by
  by_cases hno : noText s.data.toList
  · rw [show prE s.data.toList = 43 from if_pos hno] at h
    exact absurd h (by decide)
  · obtain ⟨_, e2, e3⟩ := pr_good hno
    rw [e2] at h
    have hb : ¬ 65536 < bl (dn s.data.toList) := fun e => by rw [(fit_out e).2] at h; exact absurd h (by decide)
    rw [e3, (fit_in (by omega)).1]
    obtain ⟨h1, h2⟩ := tE_all (fun e => hno (.inr e))
    rw [dec_dn _ h1 (fun e => hno (.inl e)) h2]

set_option maxHeartbeats 1000000 in
set_option maxRecDepth 100000 in
theorem walk (s : ByteArray) (w : World) (hT : Pw w) (hs : s.size ≤ 9223372036854775807) :
    Calls Tryz.prog 3 #[.string s] w fun e w' => e = .returned (.bool true) ∧ Fresh w w' := by
  have haw := awake_any w hT
  have hpa := fun W => parse_any s W hs
  have hre := fun W => refParse_any s W hs
  have hbk := text_back (s := s)
  have hbl : bl (prN s.data.toList) ≤ 65536 := by
    unfold prN
    split
    · decide
    · exact bl_fit _
  generalize prN s.data.toList = N at *
  generalize prP s.data.toList = P at *
  generalize prE s.data.toList = E at *
  have HBK := show Hid _ from hbk
  clear hbk
  go_enter Tryz.func3, Tryz.ntmps3
  go_wp2_with fail
  refine haw.mono ?_
  rintro e w1 ⟨rfl, hF1⟩
  go_wp2_with fail
  refine (hpa _).mono ?_
  rintro e w2 ⟨v, rfl, hN2, hF2⟩
  obtain ⟨va, vn, vc, rfl⟩ := hN2.shape
  have hF3 : Fresh w2 (w2.alloc (.cells #[.slice va vn vc] 26)) := (Kept.refl _ _).alloc _
  go_wp2_with fail
  refine (hre _).mono ?_
  rintro e w4 ⟨mv, rfl, hM4, hF4⟩
  have hF24 : Fresh w2 w4 := Kept.trans hF3 hF4 (fun _ _ e => e)
  have hF04 : Fresh w w4 := Kept.trans (Kept.trans hF1 hF2 (fun _ _ e => e)) hF24 (fun _ _ e => e)
  have hb4 : w4.heap[w2.heap.size]? = some (.cells #[.slice va vn vc] 26 (0, 0)) := hF4.at (heap_alloc_new w2 _) (fun e => e)
  have c4 : w4.cell? ⟨w2.heap.size, 0, none⟩ = some (.slice va vn vc) := by rw [Lib.cell_of_heap hb4]; rfl
  have his := is_any (.slice va vn vc) mv N E w4 (hN2.fresh hF24) hM4 hbl (hT.fresh hF04)
  obtain ⟨ma, mn, mc, rfl⟩ := hM4.shape
  have HN2 := show Hid _ from hN2
  have HF24 := show Hid _ from hF24
  have HF04 := show Hid _ from hF04
  have HB4 := show Hid _ from hb4
  clear haw hpa hre hN2 hF24 hF04 hb4 hF1 hF2 hF3 hF4 hM4
  go_wp2_with fail
  refine his.mono ?_
  rintro e w5 ⟨rfl, hF5⟩
  have hF05 : Fresh w w5 := Kept.trans HF04.out hF5 (fun _ _ e => e)
  by_cases hE : E = 0
  · have hbk := HBK.out hE
    subst hE
    have hb5 : w5.heap[w2.heap.size]? = some (.cells #[.slice va vn vc] 26 (0, 0)) := hF5.at HB4.out (fun e => e)
    have c5 : w5.cell? ⟨w2.heap.size, 0, none⟩ = some (.slice va vn vc) := by rw [Lib.cell_of_heap hb5]; rfl
    have htx := natText_any (.slice va vn vc) N w5 (Nm.fresh HN2.out (Kept.trans HF24.out hF5 (fun _ _ e => e))) (by omega) (hT.fresh hF05)
    rw [hbk] at htx
    have HF05 := show Hid _ from hF05
    clear hbk hb5 hF5 hF05 HBK HB4 HN2 HF24 HF04 his c4
    go_wp2_with fail
    refine htx.mono ?_
    rintro e w6 ⟨rfl, hF6⟩
    go_wp2
    go_ret
    exact ⟨by simp, Kept.trans HF05.out hF6 (fun _ _ e => e)⟩
  · have hE' : (E == 0) = false := by rw [beq_eq_false_iff_ne]; exact hE
    have HF05 := show Hid _ from hF05
    clear hF5 hF05 HBK HB4 HN2 HF24 HF04 his c4
    go_wp2
    go_ret
    exact ⟨rfl, HF05.out⟩

set_option maxRecDepth 100000 in
theorem contract (H : Type) (enc : TypeId × Value → H) (W : World) (base : Nat) (args : Array Value) (ds gs : List (DataW H)) (before : List MemPlace)
    (hval : ∀ (j : Nat) t v, Tryz.f3.params[j]? = some t → args[j]? = some v → Value.okWide Tryz.prog W .any base t v)
    (hW : DataW.Whole enc Tryz.prog Tryz.f3.params.toList Rows.natParsesSpec.vars false W args.toList ds gs before) 
    (hsz : (DataW.weightsEach Tryz.prog (Tryz.f3.params.toList ++ []) (ds ++ gs)).all (· ≤ reachBytes) = true) (hL : laidMetH Tryz.prog Rows.natParsesRow.laid W) :
    Calls Tryz.prog 3 args W fun e W' => ∃ v, e = .returned v ∧ Rows.natParsesSpec.post enc Tryz.prog Tryz.f3 false true false false W args v W' := by
  have hW' := hW
  obtain ⟨p, q, hA0, hV, rfl, hfz, hnd⟩ := hW
  have hA : DataW.TrodAll enc Tryz.prog W 0 (fun _ => true) true Tryz.f3.params.toList args.toList ds p := hA0
  rw [Tryz.params3] at hA hval hsz
  obtain ⟨rfl, rfl⟩ := trodVars_none hV
  obtain ⟨v0, d0, rfl, rfl, h0⟩ := trodAll_one hA
  obtain ⟨s, rfl, rfl, rfl, hs⟩ := Go.ChangeMaps.open_string Tryz.underlying9 (hval 0 9 v0 rfl rfl) h0
  refine (walk s W (pw_of_laid hL (by simp [Rows.natParsesRow])) (by unfold maxLen at hs; omega)).mono fun e W' ⟨he, hk⟩ => ?_
  subst he
  exact ⟨_, rfl, post_law rfl (by kernel_rfl) (by kernel_rfl) hW' rfl hk⟩

set_option maxRecDepth 100000 in
theorem laid_met (os : Os) : laidMet Tryz.prog Rows.natParsesRow.laid ((layIn (World.holding Tryz.prog os ⟨#[], #[], []⟩)).forCall (fun _ _ => 0) ⟨#[], #[.string ⟨#[]⟩], []⟩).memory :=
  laidMet_of_run' 8 (by kernel_rfl) (by kernel_rfl)
set_option maxRecDepth 100000 in
theorem reads (os : Os) {H : Type} (enc : TypeId × Value → H) : ∃ places, DataW.whole enc Tryz.prog ((layIn (World.holding Tryz.prog os ⟨#[], #[], []⟩)).forCall (fun _ _ => 0) ⟨#[], #[.string ⟨#[]⟩], []⟩).memory Tryz.f3.params.toList Rows.natParsesSpec.vars false (#[.string ⟨#[]⟩] : Array Value).toList 8 = some ([.lit (.string [])], [], places) :=
  ⟨[], by kernel_rfl⟩

set_option maxRecDepth 100000 in
theorem lifted (os : Os) (started : os.Started) (H : Type) (enc : TypeId × Value → H) (F : Stop.Interp) :
    ReturnsInHanded {} Tryz.checked os 3 .any ((OpenSpec.ofChange Rows.natParsesSpec).preRow enc Tryz.prog Tryz.f3 Rows.natParsesRow.domain false Rows.natParsesRow.laid) (((OpenSpec.ofChange Rows.natParsesSpec).at F).post enc Tryz.prog Tryz.f3 false true false false) := by
  obtain ⟨places, hx⟩ := reads os enc
  refine returnsInHanded_of_row (C := Tryz.checked) (s := OpenSpec.ofChange Rows.natParsesSpec) Tryz.own started (by kernel_rfl) Tryz.func3
    (witness_row_atRef (enc := enc) (C := Tryz.checked) false (layIn (World.holding Tryz.prog os ⟨#[], #[], []⟩)) #[.string ⟨#[]⟩] rfl (by kernel_rfl) (by kernel_rfl) (by kernel_rfl)
      (OpenSpec.preRow_of_cond 8 hx (by kernel_rfl) (fun k hk => by cases hk) (by kernel_rfl) (laid_met os))) ?_
  intro W base args ds gs before hval hW _ hc hsz hL _ _
  exact contract H enc W base args ds gs before hval hW hsz hL

theorem said : Rows.NatParsesSaid :=
  OpenClaim.holds_of_cond 3 Tryz.f3 rfl rfl rfl rfl rfl rfl rfl ⟨rfl, rfl, rfl, rfl, rfl⟩ rfl rfl rfl rfl rfl (by kernel_rfl) Tryz.func3 (by kernel_rfl)
    (of_decide_eq_true (by kernel_rfl)) (by unfold Func.isWrapper; first | (rw [if_pos (by decide +kernel)]; kernel_rfl) | (rw [if_neg (by decide +kernel)]; exact ⟨rfl, rfl⟩))
    (fun os started H enc _ F => by rw [OpenClaim.pre_eq_preRow]; exact lifted os started H enc F)

theorem plain (f : FuncId) (fn : Func) (hf : Tryz.pinned.checked.prog.funcNamed Rows.natParsesRow.func = some f) (hfn : Tryz.pinned.checked.prog.funcs[f]? = some fn) :
    true = Tryz.pinned.checked.prog.looks [] ∧ ∀ (j : Nat) t, fn.params[j]? = some t → Tryz.pinned.checked.prog.wantsStandIn t = false := by
  obtain rfl : f = 3 := Option.some.inj ((show Tryz.prog.funcNamed Rows.natParsesRow.func = some 3 by kernel_rfl).symm.trans hf) |>.symm
  obtain rfl : fn = Tryz.f3 := (Option.some.inj (Tryz.func3.symm.trans hfn)).symm
  refine ⟨by kernel_rfl, fun j t ht => ?_⟩
  have hall : (Tryz.f3.params.toList.all fun u => !Tryz.prog.wantsStandIn u) = true := by kernel_rfl
  exact (show Tryz.prog.wantsStandIn t = false by simpa using List.all_eq_true.1 hall t (Array.mem_toList_iff.2 (Array.mem_of_getElem? ht)))

theorem card : Rows.NatParsesCardSaid :=
  Claim7.holds_tied_plain_at .later [] _ _ _ _ said (fun _ h => by cases h) (by kernel_rfl) (fun _ h => by cases h) natParses_row_tie rfl ⟨rfl, rfl⟩ (by kernel_rfl) rfl plain (by kernel_rfl)

end Go.Proofs.YtdmjfmipalifpaaGreatDoor.LParses
namespace Go.Proofs.YtdmjfmipalifpaaGreatDoor
theorem natParses_card : Rows.NatParsesCardSaid := LParses.card
end Go.Proofs.YtdmjfmipalifpaaGreatDoor
