/-
  A row gone through a matrix, the package's and the document's.
-/
import Derived.Test.YtbppahmcjifflaaDoorAcM
import Derived.Test.YtbppahmcjifflaaDoorVci
namespace Go.Proofs.YtbppahmcjifflaaDoor
open Go.RowKit Go.Lib Go.Maps

set_option maxHeartbeats 1000000 in
theorem shrunk_any (p q : Nat → Prop) (wv xv : Value) (zs ys : List Int) (s : Int) (w : World) (hw : Rk .i8 p w wv zs) (hx : Rk .i8 q w xv ys) (hs : I64 s) :
    Calls Tryd.prog 29 #[wv, xv, zV s] w fun e w' => Gives .i8 30 (srL zs ys s) (srE zs ys s) w e w' := by
  have HT : Hid (Unit → _) := fun (_ : Unit) => Times_any p q wv xv zs ys ys.length w hw hx ⟨by have := hx.many; omega, by have := hx.many; omega⟩
  have HI : Hid _ := tL_i64 (ys.length : Int) hw.all hx.all
  have HL : Hid _ := tL_len zs ys (ys.length : Int)
  obtain ⟨xo, xc, rfl, _⟩ := hx.shape
  have hmany := hx.many
  by_cases h0 : tE zs ys.length ys = 0
  · rw [srE_ok h0, show srL zs ys s = sL (tL zs ys.length ys) s 62 _ from rfl]
    rw [h0] at HT
    have HS : Hid (∀ W v, Rk .i64 (fun b => w.heap.size ≤ b ∧ b < W.heap.size) W v (tL zs ys.length ys) → _) := fun W v hv => Shrink_any _ v _ s W hv hs
    clear hw hx h0 hs
    generalize tL zs ys.length ys = T at *
    generalize ys.length = n at *
    generalize sE T.length s 62 = E at *
    go_enter Tryd.func29, Tryd.ntmps29
    go_wp2_with fail
    refine (HT.out ()).mono ?_
    rintro e w1 hg
    obtain ⟨v, rfl, hr, hF1⟩ := hg.row (by have := HL.out; simp [kb]; omega) HI.out
    have HC : Hid (Unit → _) := fun (_ : Unit) => HS.out w1 v hr
    have HF1 : Hid (Fresh w w1) := hF1
    clear hr hg HT HS HI HL hF1
    go_wp2_with fail
    refine (HC.out ()).mono ?_
    rintro e w2 hg2
    obtain ⟨v2, rfl, ho, hF2⟩ := hg2.from HF1.out
    have HX : Hid (Gives .i8 30 _ E w (.returned (.tuple #[v2, zV E])) w2) := ⟨_, rfl, ho, hF2⟩
    clear ho hF2 hg2 HC HF1
    go_wp2
    go_ret2
    exact HX.out
  · rw [srE_bad h0, srL_bad h0]
    rw [tL_bad h0] at HT
    have h0' : (tE zs ys.length ys == 0) = false := by simp [h0]
    clear hw hx h0 hs HI HL
    generalize tE zs ys.length ys = E at *
    generalize ys.length = n at *
    go_enter Tryd.func29, Tryd.ntmps29
    go_wp2_with fail
    refine (HT.out ()).mono ?_
    rintro e w1 ⟨v, rfl, ho, hF1⟩
    have HX : Hid (Gives .i8 30 [] E w (.returned (.tuple #[.slice none 0 0, zV E])) w1) := ⟨_, rfl, own_nil _ _ _, hF1⟩
    clear ho hF1 HT
    go_wp2
    go_ret2
    exact HX.out

set_option maxHeartbeats 1000000 in
theorem scaled_any (p q : Nat → Prop) (wv xv : Value) (zs ys : List Int) (s : Int) (w : World) (hw : Rk .i8 p w wv zs) (hx : Rk .i8 q w xv ys) (hs : I64 s) :
    Calls Tryd.prog 30 #[wv, xv, zV s] w fun e w' => Gives .i64 2 (scL zs ys s) (srE zs ys s) w e w' := by
  have HT : Hid (Unit → _) := fun (_ : Unit) => Times_any p q wv xv zs ys ys.length w hw hx ⟨by have := hx.many; omega, by have := hx.many; omega⟩
  have HI : Hid _ := tL_i64 (ys.length : Int) hw.all hx.all
  have HL : Hid _ := tL_len zs ys (ys.length : Int)
  obtain ⟨xo, xc, rfl, _⟩ := hx.shape
  have hmany := hx.many
  by_cases h0 : tE zs ys.length ys = 0
  · rw [srE_ok h0, show scL zs ys s = sL (tL zs ys.length ys) s 62 _ from rfl]
    rw [h0] at HT
    have HS : Hid (∀ W v, Rk .i64 (fun b => w.heap.size ≤ b ∧ b < W.heap.size) W v (tL zs ys.length ys) → _) := fun W v hv => Scale_any _ v _ s W hv hs
    clear hw hx h0 hs
    generalize tL zs ys.length ys = T at *
    generalize ys.length = n at *
    generalize sE T.length s 62 = E at *
    go_enter Tryd.func30, Tryd.ntmps30
    go_wp2_with fail
    refine (HT.out ()).mono ?_
    rintro e w1 hg
    obtain ⟨v, rfl, hr, hF1⟩ := hg.row (by have := HL.out; simp [kb]; omega) HI.out
    have HC : Hid (Unit → _) := fun (_ : Unit) => HS.out w1 v hr
    have HF1 : Hid (Fresh w w1) := hF1
    clear hr hg HT HS HI HL hF1
    go_wp2_with fail
    refine (HC.out ()).mono ?_
    rintro e w2 hg2
    obtain ⟨v2, rfl, ho, hF2⟩ := hg2.from HF1.out
    have HX : Hid (Gives .i64 2 _ E w (.returned (.tuple #[v2, zV E])) w2) := ⟨_, rfl, ho, hF2⟩
    clear ho hF2 hg2 HC HF1
    go_wp2
    go_ret2
    exact HX.out
  · rw [srE_bad h0, scL_bad h0]
    rw [tL_bad h0] at HT
    have h0' : (tE zs ys.length ys == 0) = false := by simp [h0]
    clear hw hx h0 hs HI HL
    generalize tE zs ys.length ys = E at *
    generalize ys.length = n at *
    go_enter Tryd.func30, Tryd.ntmps30
    go_wp2_with fail
    refine (HT.out ()).mono ?_
    rintro e w1 ⟨v, rfl, ho, hF1⟩
    have HX : Hid (Gives .i64 2 [] E w (.returned (.tuple #[.slice none 0 0, zV E])) w1) := ⟨_, rfl, own_nil _ _ _, hF1⟩
    clear ho hF1 HT
    go_wp2
    go_ret2
    exact HX.out

set_option maxHeartbeats 1000000 in
theorem refShrunk_any (p q : Nat → Prop) (wv xv : Value) (zs ys : List Int) (s : Int) (w : World) (hw : Rk .i8 p w wv zs) (hx : Rk .i8 q w xv ys) (hs : I64 s) :
    Calls Tryd.prog 31 #[wv, xv, zV s] w fun e w' => Gives .i8 30 (srL zs ys s) (srE zs ys s) w e w' := by
  have HT : Hid (Unit → _) := fun (_ : Unit) => refTimes_any p q wv xv zs ys ys.length w hw hx ⟨by have := hx.many; omega, by have := hx.many; omega⟩
  have HI : Hid _ := tL_i64 (ys.length : Int) hw.all hx.all
  have HL : Hid _ := tL_len zs ys (ys.length : Int)
  obtain ⟨xo, xc, rfl, _⟩ := hx.shape
  have hmany := hx.many
  by_cases h0 : tE zs ys.length ys = 0
  · rw [srE_ok h0, show srL zs ys s = sL (tL zs ys.length ys) s 62 _ from rfl]
    rw [h0] at HT
    have HS : Hid (∀ W v, Rk .i64 (fun b => w.heap.size ≤ b ∧ b < W.heap.size) W v (tL zs ys.length ys) → _) := fun W v hv => refShrink_any _ v _ s W hv hs
    clear hw hx h0 hs
    generalize tL zs ys.length ys = T at *
    generalize ys.length = n at *
    generalize sE T.length s 62 = E at *
    go_enter Tryd.func31, Tryd.ntmps31
    go_wp2_with fail
    refine (HT.out ()).mono ?_
    rintro e w1 hg
    obtain ⟨v, rfl, hr, hF1⟩ := hg.row (by have := HL.out; simp [kb]; omega) HI.out
    have HC : Hid (Unit → _) := fun (_ : Unit) => HS.out w1 v hr
    have HF1 : Hid (Fresh w w1) := hF1
    clear hr hg HT HS HI HL hF1
    go_wp2_with fail
    refine (HC.out ()).mono ?_
    rintro e w2 hg2
    obtain ⟨v2, rfl, ho, hF2⟩ := hg2.from HF1.out
    have HX : Hid (Gives .i8 30 _ E w (.returned (.tuple #[v2, zV E])) w2) := ⟨_, rfl, ho, hF2⟩
    clear ho hF2 hg2 HC HF1
    go_wp2
    go_ret2
    exact HX.out
  · rw [srE_bad h0, srL_bad h0]
    rw [tL_bad h0] at HT
    have h0' : (tE zs ys.length ys == 0) = false := by simp [h0]
    clear hw hx h0 hs HI HL
    generalize tE zs ys.length ys = E at *
    generalize ys.length = n at *
    go_enter Tryd.func31, Tryd.ntmps31
    go_wp2_with fail
    refine (HT.out ()).mono ?_
    rintro e w1 ⟨v, rfl, ho, hF1⟩
    have HX : Hid (Gives .i8 30 [] E w (.returned (.tuple #[.slice none 0 0, zV E])) w1) := ⟨_, rfl, own_nil _ _ _, hF1⟩
    clear ho hF1 HT
    go_wp2
    go_ret2
    exact HX.out

/-- A middle as a value: three rows and three shifts. -/
def MidV (p : Nat → Prop) (W : World) (v : Value) (m : Mid) : Prop :=
  ∃ gv uv dv, v = .agg #[gv, uv, dv, zV m.gs, zV m.us, zV m.ds] ∧ Rk .i8 p W gv m.g ∧ Rk .i8 p W uv m.u ∧ Rk .i8 p W dv m.d ∧ I64 m.gs ∧ I64 m.us ∧ I64 m.ds
theorem MidV.kept {p S : Nat → Prop} {W W' : World} {v : Value} {m : Mid} (h : MidV p W v m) (hk : Kept S W W') (hn : ∀ b, p b → ¬ S b) : MidV p W' v m := by
  obtain ⟨gv, uv, dv, e, h1, h2, h3, h4⟩ := h
  exact ⟨gv, uv, dv, e, h1.kept hk hn, h2.kept hk hn, h3.kept hk hn, h4⟩
theorem MidV.fresh {p : Nat → Prop} {W W' : World} {v : Value} {m : Mid} (h : MidV p W v m) (hk : Fresh W W') : MidV p W' v m := h.kept hk (fun _ _ e => e)
theorem MidV.mono {p q : Nat → Prop} {W : World} {v : Value} {m : Mid} (h : MidV p W v m) (hpq : ∀ b, p b → q b) : MidV q W v m := by
  obtain ⟨gv, uv, dv, e, h1, h2, h3, h4⟩ := h
  exact ⟨gv, uv, dv, e, h1.mono hpq, h2.mono hpq, h3.mono hpq, h4⟩
theorem MidV.down {p : Nat → Prop} {W : World} {v : Value} {m : Mid} (h : MidV p W v m) : ∀ z ∈ m.d, C8 z := by
  obtain ⟨_, _, _, _, _, _, h3, _⟩ := h
  exact h3.all
end Go.Proofs.YtbppahmcjifflaaDoor
