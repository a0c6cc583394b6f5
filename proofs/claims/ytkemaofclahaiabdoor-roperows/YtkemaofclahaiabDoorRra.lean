/-
  At, the package's and the document's.
-/
import Derived.Test.YtkemaofclahaiabDoorRrN
import Derived.Test.YtkemaofclahaiabDoorCut8
import Derived.Test.YtkemaofclahaiabDoorRoe
import Derived.Deep.RegionHeld3
import Derived.BigQuiet
namespace Go.Proofs.YtkemaofclahaiabDoor
open Go.RowKit Go.Lib Go.Maps

set_option maxHeartbeats 1000000 in
theorem clone_any (p : Nat → Prop) (b off n c : Nat) (zs : List Int) (w : World) (hr : Rk .i8 p w (.slice (some ⟨b, off, none⟩) n c) zs) (hpos : zs ≠ []) :
    Calls Tryd.prog 13 #[.slice (some ⟨b, off, none⟩) n c] w fun e w' => ∃ g gc, e = .returned (.slice (some ⟨g, 0, none⟩) n gc) ∧ w'.ownsRow w.heap.size 35 1 (.slice (some ⟨g, 0, none⟩) n gc) n (zs.map (Value.int .i8)) ∧ Fresh w w' := by
  have hF : Fresh w (w.alloc (.cells #[] 35)) := (Kept.refl _ w).alloc _
  have hn : zs.length = n := hr.cells.1
  obtain ⟨v', Y, h1, h2, h3⟩ := twin1 ty8 23 (w.alloc (.cells #[] 35)) ⟨w.heap.size, 0, none⟩ _ zs _ (hr.fresh hF) hpos
  rw [hn] at h2
  have hn0 : n ≠ 0 := by rw [← hn]; exact fun e => hpos (List.eq_nil_of_length_eq_zero e)
  obtain ⟨g, gc, rfl⟩ : ∃ g gc, v' = .slice (some ⟨g, 0, none⟩) n gc := by
    rcases h2.2 with ⟨_, e⟩ | ⟨g', cap', cur, hv, _⟩
    · exact absurd e hn0
    · exact ⟨g', cap', hv⟩
  have HX : Hid (Y.ownsRow w.heap.size 35 1 (.slice (some ⟨g, 0, none⟩) n gc) n (zs.map (Value.int .i8)) ∧ Fresh w Y) := ⟨own_low h2 hF.size, hF.trans h3 (fun _ _ e => e)⟩
  have he : ∀ W : World, Sem.run Tryd.prog (binOp .eql 23 (.slice (some ⟨b, off, none⟩) n c) (.slice none 0 0)) W = .ok (.bool false) W := fun W => Lib.run_eql_slice_nil W _ _ _ _ _ 0 0 Tryd.underlying23
  clear h2 h3 hr hF hn hn0 hpos
  go_enter Tryd.func13, Tryd.ntmps13
  go_wp2_with (at_builtin; refine Lib.wpList_append_run _ rfl _ _ _ _ rfl _ _ rfl rfl _ _ h1 ?_)
  go_ret
  exact ⟨g, gc, rfl, HX.out⟩

set_option maxHeartbeats 4000000 in
set_option maxRecDepth 100000 in
theorem At_any (p q : Nat → Prop) (cv sv : Value) (cs ss : List Int) (half place : Int) (w : World) (hc : Rk .i8 p w cv cs) (hs : Rk .i8 q w sv ss) (hpl : I64 place) :
    Calls Tryd.prog 5 #[cv, sv, zV half, zV place] w fun e w' => Gives2 (atL cs (atE cs.length ss.length half place) half place) (atL ss (atE cs.length ss.length half place) half place) (atE cs.length ss.length half place) w e w' := by
  have HG : Hid (∀ (E : Int), Gives2 [] [] E w (.returned (.tuple #[.slice none 0 0, .slice none 0 0, zV E])) w) := fun E => Gives2.none _ _
  have HP : Hid (Unit → _) := fun (_ : Unit) => paired_any half w
  have hmany := hc.many
  obtain ⟨co, cc, hcv, _⟩ := hc.shape
  obtain ⟨so, sc, hsv, _⟩ := hs.shape
  obtain ⟨pl0, pl1⟩ := hpl
  rcases at_cases cs.length ss.length half place with ⟨hE, h1⟩ | ⟨h, rfl, h1, h2, h3⟩
  · rw [hE, atL_bad (by decide), atL_bad (by decide)]
    rw [show (decide (1 ≤ half) && decide (half ≤ 32)) = false by simp; omega] at HP
    subst hcv hsv
    clear hc hs hE
    go_enter Tryd.func5, Tryd.ntmps5
    go_wp2_with fail
    refine (HP.out ()).mono ?_
    rintro e w1 ⟨rfl, rfl⟩
    go_wp2
    go_ret3
    exact HG.out _
  rw [show (decide (1 ≤ (h : Int)) && decide ((h : Int) ≤ 32)) = true by simp; omega] at HP
  rcases h3 with ⟨hE, h3⟩ | ⟨h3, ⟨hE, h4⟩ | ⟨k, h4, h5, h6, h7⟩⟩
  · rw [hE, atL_bad (by decide), atL_bad (by decide)]
    have h3' : ¬ (cs.length : Int) = (ss.length : Int) := by omega
    subst hcv hsv
    clear hc hs hE
    go_enter Tryd.func5, Tryd.ntmps5
    go_wp2_with fail
    refine (HP.out ()).mono ?_
    rintro e w1 ⟨rfl, rfl⟩
    go_wp2
    go_ret3
    exact HG.out _
  · rw [hE, atL_bad (by decide), atL_bad (by decide)]
    have hm : (cs.length : Int).tmod (h : Int) = (cs.length : Int) % (h : Int) := Int.tmod_eq_emod_of_nonneg (by omega)
    subst hcv hsv
    rw [← h3]
    generalize (cs.length : Int) % (h : Int) = M at *
    have h4' : (M != 0) = true := by simp [h4]
    clear hc hs hE h3
    go_enter Tryd.func5, Tryd.ntmps5
    go_wp2_with fail
    refine (HP.out ()).mono ?_
    rintro e w1 ⟨rfl, rfl⟩
    go_wp2
    go_ret3
    exact HG.out _
  have hm : (cs.length : Int).tmod (h : Int) = 0 := (Int.tmod_eq_emod_of_nonneg (by omega)).trans h5
  have hd : (cs.length : Int).tdiv (h : Int) = k := (Int.tdiv_eq_ediv_of_nonneg (by omega)).trans h6
  have hk : k ≤ 140737488351232 := by have := Nat.le_mul_of_pos_right k (show 0 < h by omega); omega
  rcases h7 with ⟨hE, h7⟩ | ⟨P, rfl, ⟨hE, h7⟩ | ⟨hE, h7⟩⟩
  · rw [hE, atL_bad (by decide), atL_bad (by decide)]
    subst hcv hsv
    rw [← h3]
    clear hc hs hE h3 h4
    generalize cs.length = n at *
    go_enter Tryd.func5, Tryd.ntmps5
    go_wp2_with fail
    refine (HP.out ()).mono ?_
    rintro e w1 ⟨rfl, rfl⟩
    go_wp2
    go_ret3
    exact HG.out _
  · rw [hE, atL_bad (by decide), atL_bad (by decide)]
    subst hcv hsv
    rw [← h3]
    have h7' : (k : Int) ≤ (P : Int) := by omega
    have h8 : decide ((P : Int) < 0) = false := by simp
    clear hc hs hE h3 h4
    generalize cs.length = n at *
    go_enter Tryd.func5, Tryd.ntmps5
    go_wp2_with fail
    refine (HP.out ()).mono ?_
    rintro e w1 ⟨rfl, rfl⟩
    go_wp2
    go_ret3
    exact HG.out _
  · rw [hE, atL_ok, atL_ok]
    have hfit : P * h + h ≤ cs.length := by rw [h4]; exact fits_at h7
    have h8 : decide ((P : Int) < 0) = false := by simp
    have h9 : decide ((k : Int) ≤ (P : Int)) = false := by simp; omega
    subst hcv hsv
    rw [← h3] at hs ⊢
    obtain ⟨b1, o1, rfl, _⟩ := hc.cells.2.2.2 (by omega)
    obtain ⟨b2, o2, rfl, _⟩ := hs.cells.2.2.2 (by omega)
    have hx1 := hc.cut (P * h) h hfit
    have hx2 := hs.cut (P * h) h hfit
    have hl1 : ((cs.drop (P * h)).take h).length = h := hx1.cells.1
    have hl2 : ((ss.drop (P * h)).take h).length = h := hx2.cells.1
    have q1 := hc.cells.2.1
    have q2 := hs.cells.2.1
    obtain ⟨A, hA⟩ : ∃ A, P * h = A := ⟨_, rfl⟩
    rw [hA] at hx1 hx2 hfit hl1 hl2 ⊢
    have hA1 : (P : Int) * (h : Int) = (A : Int) := by rw [← hA]; simp
    have hA2 : ((P : Int) + 1) * (h : Int) = (A : Int) + (h : Int) := by rw [Int.add_mul, hA1, Int.one_mul]
    have s1 := fun W => run_cut8 b1 o1 cs.length cc A h h1 (by omega) W
    have s2 := fun W => run_cut8 b2 o2 cs.length sc A h h1 (by omega) W
    have H1 : Hid (∀ W, Fresh w W → _) := fun W hW => clone_any _ _ _ _ _ _ W (hx1.fresh hW) (fun e => by rw [e] at hl1; simp at hl1; omega)
    have H2 : Hid (∀ W, Fresh w W → _) := fun W hW => clone_any _ _ _ _ _ _ W (hx2.fresh hW) (fun e => by rw [e] at hl2; simp at hl2; omega)
    have HL : Hid (((cs.drop A).take h).length = h ∧ ((ss.drop A).take h).length = h) := ⟨hl1, hl2⟩
    generalize (cs.drop A).take h = C1 at *
    generalize (ss.drop A).take h = C2 at *
    generalize cs.length = n at *
    clear hc hs hE h3 h4 hx1 hx2 hl1 hl2 hA HG
    go_enter Tryd.func5, Tryd.ntmps5
    go_wp2_with fail
    refine (HP.out ()).mono ?_
    rintro e w1 ⟨rfl, hw1⟩
    have hw2 := hw1.symm
    subst hw2
    clear hw1 HP
    go_wp2
    have hS0 : Fresh w w.drew := (Kept.refl _ w).drew
    go_region_held3 (fun X => Fresh w X) (first | exact hS0 | exact hF1 | exact hF2 | assumption)
      (first
        | (go_at_call 13; have hFw : Fresh w _ := (by assumption); (with_reducible refine (H1.out _ hFw).mono ?_); rintro e X1 ⟨g1, e1, rfl, hO1, hF1'⟩; have hF1 : Fresh w X1 := hFw.trans hF1' (fun _ _ e => e))
        | (go_at_call 13; have hFw : Fresh w _ := (by assumption); (with_reducible refine (H2.out _ hFw).mono ?_); rintro e X2 ⟨g2, e2, rfl, hO2, hF2'⟩; have hF2 : Fresh w X2 := hFw.trans hF2' (fun _ _ e => e)))
    all_goals
      have HX : Hid (Gives2 C1 C2 0 w (.returned (.tuple #[.slice (some ⟨g1, 0, none⟩) h e1, .slice (some ⟨g2, 0, none⟩) h e2, zV 0])) X2) := by
        refine ⟨_, _, rfl, ?_, ?_, fun g e => ?_, hF2⟩
        · rw [HL.out.1]; exact owns_kept (own_low hO1 (by simp)) hF2' (fun _ _ e => e)
        · rw [HL.out.2]; exact own_low hO2 hF1.size
        · have := (own_block hO1).2.1
          have := (own_block hO2).1
          simp [Value.ownBlock] at e ⊢
          omega
      clear hO1 hO2 hF1 hF2 hF1' hF2' hS0 H1 H2
      go_wp2
      go_ret3
      exact HX.out

/-- What the document's At answers: parts of the rows. -/
def AtIs (p q : Nat → Prop) (A B : List Int) (E : Int) (w : World) (x : Ending) (w' : World) : Prop :=
  ∃ u v, x = .returned (.tuple #[u, v, zV E]) ∧ Rk .i8 p w' u A ∧ Rk .i8 q w' v B ∧ Drew w w'
theorem rk_nil (k : IntKind) (p : Nat → Prop) (w : World) : Rk k p w (.slice none 0 0) [] := ⟨none, 0, rfl, by simp, fun h => absurd rfl h, by simp, fun _ => rfl, by simp⟩
theorem AtIs.none (p q : Nat → Prop) (E : Int) (w : World) : AtIs p q [] [] E w (.returned (.tuple #[.slice none 0 0, .slice none 0 0, zV E])) w := ⟨_, _, rfl, rk_nil _ _ _, rk_nil _ _ _, Drew.refl _⟩

set_option maxHeartbeats 4000000 in
set_option maxRecDepth 100000 in
theorem refAt_any (p q : Nat → Prop) (cv sv : Value) (cs ss : List Int) (half place : Int) (w : World) (hc : Rk .i8 p w cv cs) (hs : Rk .i8 q w sv ss) (hpl : I64 place) :
    Calls Tryd.prog 6 #[cv, sv, zV half, zV place] w fun e w' => AtIs p q (atL cs (atE cs.length ss.length half place) half place) (atL ss (atE cs.length ss.length half place) half place) (atE cs.length ss.length half place) w e w' := by
  have HG : Hid (∀ (E : Int), AtIs p q [] [] E w (.returned (.tuple #[.slice none 0 0, .slice none 0 0, zV E])) w) := fun E => AtIs.none _ _ _ _
  have hmany := hc.many
  obtain ⟨co, cc, hcv, _⟩ := hc.shape
  obtain ⟨so, sc, hsv, _⟩ := hs.shape
  obtain ⟨pl0, pl1⟩ := hpl
  rcases at_cases cs.length ss.length half place with ⟨hE, h1⟩ | ⟨h, rfl, h1, h2, h3⟩
  · rw [hE, atL_bad (by decide), atL_bad (by decide)]
    subst hcv hsv
    clear hc hs hE
    by_cases k1 : half < 1
    · go_enter Tryd.func6, Tryd.ntmps6
      go_wp2
      go_ret3
      exact HG.out _
    · have k1' : decide (half < 1) = false := by simp; omega
      have k2 : 32 < half := by omega
      go_enter Tryd.func6, Tryd.ntmps6
      go_wp2
      go_ret3
      exact HG.out _
  have k1' : decide ((h : Int) < 1) = false := by simp; omega
  have k2' : decide (32 < (h : Int)) = false := by simp; omega
  rcases h3 with ⟨hE, h3⟩ | ⟨h3, ⟨hE, h4⟩ | ⟨k, h4, h5, h6, h7⟩⟩
  · rw [hE, atL_bad (by decide), atL_bad (by decide)]
    have h3' : ¬ (cs.length : Int) = (ss.length : Int) := by omega
    subst hcv hsv
    clear hc hs hE
    go_enter Tryd.func6, Tryd.ntmps6
    go_wp2
    go_ret3
    exact HG.out _
  · rw [hE, atL_bad (by decide), atL_bad (by decide)]
    have hm : (cs.length : Int).tmod (h : Int) = (cs.length : Int) % (h : Int) := Int.tmod_eq_emod_of_nonneg (by omega)
    subst hcv hsv
    rw [← h3]
    generalize (cs.length : Int) % (h : Int) = M at *
    have h4' : (M != 0) = true := by simp [h4]
    clear hc hs hE h3
    go_enter Tryd.func6, Tryd.ntmps6
    go_wp2
    go_ret3
    exact HG.out _
  have hm : (cs.length : Int).tmod (h : Int) = 0 := (Int.tmod_eq_emod_of_nonneg (by omega)).trans h5
  have hd : (cs.length : Int).tdiv (h : Int) = k := (Int.tdiv_eq_ediv_of_nonneg (by omega)).trans h6
  have hk : k ≤ 140737488351232 := by have := Nat.le_mul_of_pos_right k (show 0 < h by omega); omega
  rcases h7 with ⟨hE, h7⟩ | ⟨P, rfl, ⟨hE, h7⟩ | ⟨hE, h7⟩⟩
  · rw [hE, atL_bad (by decide), atL_bad (by decide)]
    subst hcv hsv
    rw [← h3]
    clear hc hs hE h3 h4
    generalize cs.length = n at *
    go_enter Tryd.func6, Tryd.ntmps6
    go_wp2
    go_ret3
    exact HG.out _
  · rw [hE, atL_bad (by decide), atL_bad (by decide)]
    subst hcv hsv
    rw [← h3]
    have h7' : (k : Int) ≤ (P : Int) := by omega
    have h8 : decide ((P : Int) < 0) = false := by simp
    clear hc hs hE h3 h4
    generalize cs.length = n at *
    go_enter Tryd.func6, Tryd.ntmps6
    go_wp2
    go_ret3
    exact HG.out _
  · rw [hE, atL_ok, atL_ok]
    have hfit : P * h + h ≤ cs.length := by rw [h4]; exact fits_at h7
    have h8 : decide ((P : Int) < 0) = false := by simp
    have h9 : decide ((k : Int) ≤ (P : Int)) = false := by simp; omega
    subst hcv hsv
    rw [← h3] at hs ⊢
    obtain ⟨b1, o1, rfl, _⟩ := hc.cells.2.2.2 (by omega)
    obtain ⟨b2, o2, rfl, _⟩ := hs.cells.2.2.2 (by omega)
    have hx1 := hc.cut (P * h) h hfit
    have hx2 := hs.cut (P * h) h hfit
    have q1 := hc.cells.2.1
    have q2 := hs.cells.2.1
    obtain ⟨A, hA⟩ : ∃ A, P * h = A := ⟨_, rfl⟩
    rw [hA] at hx1 hx2 hfit ⊢
    have hA1 : (P : Int) * (h : Int) = (A : Int) := by rw [← hA]; simp
    have r1 : IntKind.i64.wrap (A : Int) = (A : Int) := wrapId (by omega) (by omega)
    have r3 : IntKind.i64.wrap ((A : Int) + (h : Int)) = (A : Int) + (h : Int) := wrapId (by omega) (by omega)
    have s1 := fun W => run_cut8 b1 o1 cs.length cc A h h1 (by omega) W
    have s2 := fun W => run_cut8 b2 o2 cs.length sc A h h1 (by omega) W
    have HX : Hid (∀ d, AtIs p q ((cs.drop A).take h) ((ss.drop A).take h) 0 w (.returned (.tuple #[.slice (some ⟨b1, o1 + A, none⟩) h (cc - A), .slice (some ⟨b2, o2 + A, none⟩) h (sc - A), zV 0])) (w.drewN d)) := fun d => ⟨_, _, rfl, hx1.fresh (kept_drewN _ w d), hx2.fresh (kept_drewN _ w d), d, rfl⟩
    generalize (cs.drop A).take h = C1 at *
    generalize (ss.drop A).take h = C2 at *
    generalize cs.length = n at *
    clear hc hs hE h3 h4 hx1 hx2 hA HG
    go_enter Tryd.func6, Tryd.ntmps6
    go_wp2_with fail
    go_quiet (fail)
    go_wp2
    go_ret3
    exact HX.out _
end Go.Proofs.YtkemaofclahaiabDoor
