/-
  TimesPacked; packed numbers held against one another.
-/
import Derived.Test.YtlepdogfgpeogaaVdb
import Derived.Lib.SmallJoins
namespace Go.Proofs.Ytlepdogfgpeogaa
open Go.RowKit Go.Lib Go.Maps

theorem uL_i8 (n g : Int) (ss hs : List Int) : (uL n g ss hs).length * kb .i8 ≤ 140737488351232 ∧ ∀ z ∈ uL n g ss hs, Fit .i8 z := by
  unfold uL
  split
  · rename_i h
    obtain ⟨⟨h0, h1⟩, _⟩ := rightB_true h
    refine ⟨by rw [uA_length]; simp [kb]; omega, fun z hz => ?_⟩
    obtain ⟨i, _, rfl⟩ := List.mem_map.1 hz
    have := uN_bound g.toNat ss hs i
    exact ⟨by omega, by omega⟩
  · exact ⟨by simp, fun z hz => by cases hz⟩
/-- What TimesPacked answers. -/
def tpE (n g : Int) (ss hs : List Int) (c : Int) (x : List Int) : Int := if uE n g ss hs = 0 then tE (uL n g ss hs) c x else uE n g ss hs
def tpL (n g : Int) (ss hs : List Int) (c : Int) (x : List Int) : List Int := if uE n g ss hs = 0 then tL (uL n g ss hs) c x else []
set_option maxHeartbeats 2000000 in
set_option maxRecDepth 100000 in
theorem TimesPacked_any (p : Nat → Prop) (n g : Int) (sv hv xv : Value) (ss hs x : List Int) (c : Int) (w : World) (hS : Rk .u8 p w sv ss) (hH : Rk .u8 p w hv hs) (hx : Rk .i8 p w xv x) (hn : I64 n) (hg : I64 g) (hc : I64 c) :
    Calls Try.prog 23 #[.agg #[zV n, zV g, sv, hv], zV c, xv] w fun e w' => Gives .i64 2 (tpL n g ss hs c x) (tpE n g ss hs c x) w e w' := by
  obtain ⟨W0, hW0⟩ : ∃ W0, W0 = w.alloc (.cells #[zV n, zV g, sv, hv] 48) := ⟨_, rfl⟩
  have hbox : W0.heap[w.heap.size]? = some (.cells #[zV n, zV g, sv, hv] 48 (0, 0)) := by rw [hW0]; exact heap_alloc_new w _
  have hF0 : Fresh w W0 := by rw [hW0]; exact (Kept.refl _ w).alloc _
  have HF0 : Hid (Fresh w W0) := hF0
  have HU : Hid (Unit → _) := fun (_ : Unit) => Unpack_any p n g sv hv ss hs W0 (hS.fresh hF0) (hH.fresh hF0) hn hg
  have HI := show Hid _ from uL_i8 n g ss hs
  have HX : Hid (∀ W, Fresh w W → Rk .i8 p W xv x) := fun W hF => hx.fresh hF
  have HC : Hid (I64 c) := hc
  obtain ⟨sa, scp, hsv, _⟩ := hS.shape
  obtain ⟨ba, bcp, hhv, _⟩ := hH.shape
  obtain ⟨xa, xcp, hxv, _⟩ := hx.shape
  subst hsv
  subst hhv
  subst hxv
  clear hS hH hx hbox hF0 hn hg hc
  by_cases h0 : uE n g ss hs = 0
  · have HE : Hid (tpL n g ss hs c x = tL (uL n g ss hs) c x ∧ tpE n g ss hs c x = tE (uL n g ss hs) c x) := ⟨by unfold tpL; rw [if_pos h0], by unfold tpE; rw [if_pos h0]⟩
    rw [HE.out.1, HE.out.2]
    rw [h0] at HU
    clear h0
    go_enter Try.func23, Try.ntmps23
    go_wp2_with fail
    rw [← hW0]
    refine (HU.out ()).mono ?_
    rintro e w1 hG
    obtain ⟨v1, rfl, hR1, hF1⟩ := hG.row HI.out.1 HI.out.2
    have HF1 : Hid (Fresh w w1) := HF0.out.trans hF1 (fun _ _ e => e)
    have H2 : Hid (Unit → _) := fun (_ : Unit) => Times_any _ _ _ _ _ _ c w1 hR1 (HX.out w1 HF1.out) HC.out
    clear HU hG hR1 hF1 hW0
    go_wp2_with fail
    refine (H2.out ()).mono ?_
    rintro e w2 ⟨v2, rfl, ho, hF⟩
    have HY : Hid (Gives .i64 2 (tL (uL n g ss hs) c x) (tE (uL n g ss hs) c x) w (.returned (.tuple #[v2, zV (tE (uL n g ss hs) c x)])) w2) := ⟨_, rfl, own_low ho HF1.out.size, HF1.out.trans hF (fun _ _ e => e)⟩
    clear ho hF H2
    go_wp2
    go_ret2
    exact HY.out
  · have HE : Hid (tpL n g ss hs c x = [] ∧ tpE n g ss hs c x = uE n g ss hs) := ⟨by unfold tpL; rw [if_neg h0], by unfold tpE; rw [if_neg h0]⟩
    rw [HE.out.1, HE.out.2]
    have h0' : (uE n g ss hs == 0) = false := by simp [h0]
    go_enter Try.func23, Try.ntmps23
    go_wp2_with fail
    rw [← hW0]
    refine (HU.out ()).mono ?_
    rintro e w1 ⟨v1, rfl, _, hF1⟩
    have HF1 : Hid (Gives .i64 2 [] (uE n g ss hs) w (.returned (.tuple #[.slice none 0 0, zV (uE n g ss hs)])) w1) := ⟨_, rfl, own_nil _ _ _, HF0.out.trans hF1 (fun _ _ e => e)⟩
    clear HU hF1 hW0
    go_wp2
    go_ret2
    exact HF1.out
end Go.Proofs.Ytlepdogfgpeogaa
