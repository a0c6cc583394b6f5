/-
  Middle, the package's.
-/
import Derived.Test.YtbppahmcjifflaaDoorAce
import Derived.Test.YtbppahmcjifflaaDoorAcc
namespace Go.Proofs.YtbppahmcjifflaaDoor
open Go.RowKit Go.Lib Go.Maps

set_option maxHeartbeats 2000000 in
set_option maxRecDepth 100000 in
theorem Middle_any (p q r : Nat → Prop) (v bv hv : Value) (m : Mid) (b h : List Int) (w : World) (hm : MidV p w v m) (hb : Rk .i8 q w bv b) (hh : Rk .i8 r w hv h) :
    Calls Tryd.prog 16 #[v, bv, hv] w fun e w' => Gives .i64 2 (mdL m b h) (mdE m b h) w e w' := by
  obtain ⟨gv, uv, dv, rfl, hgr, hur, hdr, hi1, hi2, hi3⟩ := hm
  obtain ⟨W0, hW0⟩ : ∃ W0, w.alloc (.cells #[gv, uv, dv, zV m.gs, zV m.us, zV m.ds] 36) = W0 := ⟨_, rfl⟩
  have hF0 : Fresh w W0 := by rw [← hW0]; exact (Kept.refl _ w).alloc _
  have p1 : W0.heap[w.heap.size]? = some (.cells #[gv, uv, dv, zV m.gs, zV m.us, zV m.ds] 36 (0, 0)) := by rw [← hW0]; exact heap_alloc_new w _
  have HC : Hid (∀ W, Fresh W0 W → W.cell? ⟨w.heap.size, 0, none⟩ = some gv ∧ W.cell? ⟨w.heap.size, 1, none⟩ = some uv ∧ W.cell? ⟨w.heap.size, 2, none⟩ = some dv ∧ W.cell? ⟨w.heap.size, 3, none⟩ = some (zV m.gs) ∧ W.cell? ⟨w.heap.size, 4, none⟩ = some (zV m.us) ∧ W.cell? ⟨w.heap.size, 5, none⟩ = some (zV m.ds)) := fun W hF => by
    have q1 := hF.at p1 (fun e => e)
    exact ⟨by rw [Lib.cell_of_heap q1]; rfl, by rw [Lib.cell_of_heap q1]; rfl, by rw [Lib.cell_of_heap q1]; rfl, by rw [Lib.cell_of_heap q1]; rfl, by rw [Lib.cell_of_heap q1]; rfl, by rw [Lib.cell_of_heap q1]; rfl⟩
  have HS1 : Hid (Unit → _) := fun (_ : Unit) => shrunk_any p r gv hv m.g h m.gs W0 (hgr.fresh hF0) (hh.fresh hF0) hi1
  have HS2 : Hid (∀ W, Fresh W0 W → _) := fun W hF => shrunk_any p r uv hv m.u h m.us W ((hur.fresh hF0).fresh hF) ((hh.fresh hF0).fresh hF) hi2
  have HGa : Hid (∀ W (gv' uv' : Value), Fresh W0 W → Rk .i8 (fun b => b < W.heap.size) W gv' (srL m.g h m.gs) → Rk .i8 (fun b => b < W.heap.size) W uv' (srL m.u h m.us) → Calls Tryd.prog 13 #[bv, gv', uv'] W fun e w' => Gives .i8 30 (mdM m b h) (mdG m b h) W e w') := fun W gv' uv' hF h1 h2 => Gate_any q _ _ bv gv' uv' b _ _ W ((hb.fresh hF0).fresh hF) h1 h2
  have HSc : Hid (∀ W (v' : Value), Fresh W0 W → Rk .i8 (fun b => b < W.heap.size) W v' (mdM m b h) → Calls Tryd.prog 30 #[dv, v', zV m.ds] W fun e w' => Gives .i64 2 (scL m.d (mdM m b h) m.ds) (srE m.d (mdM m b h) m.ds) W e w') := fun W v' hF h1 => scaled_any p _ dv v' m.d _ m.ds W ((hdr.fresh hF0).fresh hF) h1 hi3
  have HL1 : Hid ((srL m.g h m.gs).length * kb .i8 ≤ 140737488351232 ∧ ∀ z ∈ srL m.g h m.gs, Fit .i8 z) := ⟨by have := srL_len m.g h m.gs; simp [kb]; omega, srL_c8 _ _ _⟩
  have HL2 : Hid ((srL m.u h m.us).length * kb .i8 ≤ 140737488351232 ∧ ∀ z ∈ srL m.u h m.us, Fit .i8 z) := ⟨by have := srL_len m.u h m.us; simp [kb]; omega, srL_c8 _ _ _⟩
  have HL3 : Hid ((mdM m b h).length * kb .i8 ≤ 140737488351232 ∧ (mdM m b h).length ≤ 1048576 ∧ ∀ z ∈ mdM m b h, Fit .i8 z) := ⟨by have := gaL_len b (srL m.g h m.gs) (srL m.u h m.us); simp only [kb, mdM]; omega, gaL_len _ _ _, gaL_c8 _ _ _⟩
  obtain ⟨bo, bc, rfl, _⟩ := hb.shape
  obtain ⟨ho, hc, rfl, _⟩ := hh.shape
  have HF0 : Hid (Fresh w W0) := hF0
  have HNo : Hid (∀ (E : Int) (W : World), Fresh W0 W → Gives .i64 2 [] E w (.returned (.tuple #[.slice none 0 0, zV E])) W) := fun E W hF => ⟨_, rfl, own_nil _ _ _, HF0.out.trans hF (fun _ _ e => e)⟩
  obtain ⟨EE, hEE⟩ : ∃ E, mdE m b h = E := ⟨_, rfl⟩
  obtain ⟨RL, hRL⟩ : ∃ L, mdL m b h = L := ⟨_, rfl⟩
  rw [hEE, hRL]
  have HEE : Hid (EE = if srE m.g h m.gs ≠ 0 then srE m.g h m.gs else if srE m.u h m.us ≠ 0 then srE m.u h m.us else if mdG m b h ≠ 0 then mdG m b h else srE m.d (mdM m b h) m.ds) := hEE.symm
  have HRL : Hid (RL = if srE m.g h m.gs ≠ 0 then [] else if srE m.u h m.us ≠ 0 then [] else if mdG m b h ≠ 0 then [] else scL m.d (mdM m b h) m.ds) := hRL.symm
  clear hEE hRL
  clear hb hh hgr hur hdr hi1 hi2 hi3 hF0 p1
  generalize mdM m b h = M at *
  generalize mdG m b h = EG at *
  generalize srL m.g h m.gs = LG at *
  generalize srL m.u h m.us = LU at *
  generalize srE m.g h m.gs = EA at *
  generalize srE m.u h m.us = EB at *
  generalize scL m.d M m.ds = LD at *
  generalize srE m.d M m.ds = ED at *
  generalize m.gs = s1 at *
  generalize m.us = s2 at *
  generalize m.ds = s3 at *
  obtain ⟨c0, c1, c2, c3, c4, c5⟩ := HC.out W0 (Kept.refl _ _)
  go_enter Tryd.func16, Tryd.ntmps16
  go_wp2_with fail
  refine (HS1.out ()).mono ?_
  rintro e w1 hg1
  clear hW0 c0 c1 c2 c3 c4 c5 HS1
  obtain ⟨v1, rfl, hr1, hF1⟩ := hg1.row HL1.out.1 HL1.out.2
  clear hg1
  by_cases hA : EA = 0
  · subst hA
    rw [if_neg (by simp)] at HEE HRL
    obtain ⟨c0, c1, c2, c3, c4, c5⟩ := HC.out w1 hF1
    have HR1 : Hid (Rk .i8 (fun b => b < w1.heap.size) w1 v1 LG) := hr1.low
    have HF1 : Hid (Fresh W0 w1) := hF1
    have HC2 : Hid (Unit → _) := fun (_ : Unit) => HS2.out w1 hF1
    clear hr1 hF1 HS2
    go_wp2_with fail
    refine (HC2.out ()).mono ?_
    rintro e w2 hg2
    clear c0 c1 c2 c3 c4 c5 HC2
    obtain ⟨v2, rfl, hr2, hF2⟩ := hg2.row HL2.out.1 HL2.out.2
    clear hg2
    have HF2 : Hid (Fresh W0 w2) := HF1.out.trans hF2 (fun _ _ e => e)
    by_cases hB : EB = 0
    · subst hB
      rw [if_neg (by simp)] at HEE HRL
      have HC3 : Hid (Unit → _) := fun (_ : Unit) => HGa.out w2 v1 v2 HF2.out ((HR1.out.fresh hF2).low) hr2.low
      clear hr2 hF2 HGa HR1 HF1
      go_wp2_with fail
      refine (HC3.out ()).mono ?_
      rintro e w3 hg3
      clear HC3
      obtain ⟨v3, rfl, hr3, hF3⟩ := hg3.row HL3.out.1 HL3.out.2.2
      clear hg3
      have HF3 : Hid (Fresh W0 w3) := HF2.out.trans hF3 (fun _ _ e => e)
      by_cases hD : EG = 0
      · subst hD
        rw [if_neg (by simp)] at HEE HRL
        obtain ⟨c0, c1, c2, c3, c4, c5⟩ := HC.out w3 HF3.out
        have HC4 : Hid (Unit → _) := fun (_ : Unit) => HSc.out w3 v3 HF3.out hr3.low
        clear hr3 hF3 HF2 HSc HL1 HL2 HL3
        go_wp2_with fail
        refine (HC4.out ()).mono ?_
        rintro e w5 hg5
        obtain ⟨v5, rfl, ho5, hF5⟩ := (hg5.from HF3.out).from HF0.out
        have HX : Hid (Gives .i64 2 RL EE w (.returned (.tuple #[v5, zV ED])) w5) := by show Gives _ _ _ _ _ _ _; rw [HEE.out, HRL.out]; exact ⟨_, rfl, ho5, hF5⟩
        clear hg5 ho5 hF5 c0 c1 c2 c3 c4 c5 HC4
        go_wp2
        go_ret2
        exact HX.out
      · rw [if_pos hD] at HEE HRL
        have hD' : (EG == 0) = false := by simp [hD]
        have HX : Hid (Gives .i64 2 RL EE w (.returned (.tuple #[.slice none 0 0, zV EG])) w3) := by show Gives _ _ _ _ _ _ _; rw [HEE.out, HRL.out]; exact HNo.out EG w3 HF3.out
        clear hr3 hF3 HF2 HL1 HL2 HL3
        go_wp2
        go_ret2
        exact HX.out
    · rw [if_pos hB] at HEE HRL
      have hB' : (EB == 0) = false := by simp [hB]
      have HX : Hid (Gives .i64 2 RL EE w (.returned (.tuple #[.slice none 0 0, zV EB])) w2) := by show Gives _ _ _ _ _ _ _; rw [HEE.out, HRL.out]; exact HNo.out EB w2 HF2.out
      clear hr2 hF2 HF1 HR1 HL1 HL2 HL3
      go_wp2
      go_ret2
      exact HX.out
  · rw [if_pos hA] at HEE HRL
    have hA' : (EA == 0) = false := by simp [hA]
    have HX : Hid (Gives .i64 2 RL EE w (.returned (.tuple #[.slice none 0 0, zV EA])) w1) := by show Gives _ _ _ _ _ _ _; rw [HEE.out, HRL.out]; exact HNo.out EA w1 hF1
    clear hr1 hF1 HL1 HL2 HL3
    go_wp2
    go_ret2
    exact HX.out
end Go.Proofs.YtbppahmcjifflaaDoor
