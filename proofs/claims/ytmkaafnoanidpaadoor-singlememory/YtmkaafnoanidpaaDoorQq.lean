/-
  The program's Quantise.
-/
import Derived.Test.YtmkaafnoanidpaaDoorQb
namespace Go.Proofs.YtmkaafnoanidpaaDoor
open Go.RowKit Ieee

set_option maxHeartbeats 800000 in
/-- The greatest scale at which a size has room, or none. -/
theorem scaleOf_any (g : Nat) (w : World) (hg : g < 2139095040) (h0 : g ≠ 0) :
    Calls Tryd.prog 32 #[.int .u32 g] w fun e w' => w = w' ∧
      ((∃ s : Int, -64 ≤ s ∧ s ≤ 64 ∧ whl g s ≤ 127 ∧ (∀ s', s < s' → s' ≤ 64 → 127 < whl g s') ∧ e = .returned (.tuple #[.int .i64 s, .int .i64 0])) ∨
       ((∀ s' : Int, -64 ≤ s' → s' ≤ 64 → 127 < whl g s') ∧ e = .returned (.tuple #[.int .i64 0, .int .i64 31]))) := by
  obtain ⟨hE, hN⟩ := low_fin hg
  have hnst : ∀ (s : Int) (X : World), -64 ≤ s → s ≤ 64 → Calls Tryd.prog 49 #[.int .u32 g, .int .i64 s] X fun e w' => e = .returned (.float .f64 (double.nearest false (whl g s) 0)) ∧ X = w' := fun s X h1 h2 => by
    have := nearest_any g s X (by omega) hE ⟨h1, h2⟩
    unfold nstB at this
    rw [hN] at this
    exact this
  have hleq : ∀ s : Int, s ≤ 64 → (FloatKind.f64.format.order (double.nearest false (whl g s) 0) 4638637247447433216 == some .lt || FloatKind.f64.format.order (double.nearest false (whl g s) 0) 4638637247447433216 == some .eq) = decide (whl g s ≤ 127) := fun s h2 =>
    leq_127 (mt g) (ex g + s) (mt_lt g) (by have := (ex_bounds g).2; omega)
  have HN := show Hid _ from hnst
  have HL := show Hid _ from hleq
  have h0' : ((g : Int) == 0) = false := by simp; omega
  clear hnst hleq hE hN
  go_enter Tryd.func32, Tryd.ntmps32
  go_wp2
  go_loop [4] (fun sv => ∃ s : Int, -65 ≤ s ∧ s ≤ 64 ∧ sv = .int .i64 s ∧ ∀ s', s < s' → s' ≤ 64 → 127 < whl g s') (fun sv => (intOf sv + 65).toNat)
  case atStart => exact ⟨64, by omega, by omega, rfl, fun s' h1 h2 => by omega⟩
  case round =>
    obtain ⟨s, hs1, hs2, rfl, hall⟩ := hrel
    have HA := show Hid _ from hall
    clear hall
    by_cases hlt : -64 ≤ s
    · have hl := HL.out s hs2
      by_cases hw : whl g s ≤ 127
      · rw [decide_eq_true hw] at hl
        have HW := show Hid _ from hw
        clear hw
        go_wp2_with fail
        refine (HN.out s _ hlt hs2).mono ?_
        rintro r X ⟨rfl, rfl⟩
        generalize double.nearest false (whl g s) 0 = D at *
        go_wp2
        go_ret2
        exact ⟨rfl, .inl ⟨s, hlt, hs2, HW.out, HA.out, rfl⟩⟩
      · rw [decide_eq_false hw] at hl
        have HW := show Hid _ from hw
        clear hw
        go_wp2_with fail
        refine (HN.out s _ hlt hs2).mono ?_
        rintro r X ⟨rfl, rfl⟩
        generalize double.nearest false (whl g s) 0 = D at *
        go_wp2
        go_round
        case rel => exact ⟨s - 1, by omega, by omega, rfl, fun s' h1 h2 => by
          rcases Int.lt_or_le s s' with h3 | h3
          · exact HA.out s' h3 h2
          · obtain rfl : s' = s := by omega
            exact Nat.lt_of_not_le HW.out⟩
        case measure => simp [intOf]; omega
    · obtain rfl : s = -65 := by omega
      go_wp2
      go_ret2
      exact ⟨rfl, .inr ⟨fun s' h1 h2 => HA.out s' (by omega) h2, rfl⟩⟩

set_option maxHeartbeats 400000 in
theorem scaleOf_zero (w : World) : Calls Tryd.prog 32 #[.int .u32 0] w fun e w' => w = w' ∧ e = .returned (.tuple #[.int .i64 0, .int .i64 0]) := by
  go_enter Tryd.func32, Tryd.ntmps32
  go_wp2
  go_ret2
  exact ⟨rfl, rfl⟩

set_option maxHeartbeats 1000000 in
theorem Quantise_own (p : Nat → Prop) (rv : Value) (bs : List Nat) (w : World) (hS : Sing w) (hr : R32 p w rv bs) :
    Calls Tryd.prog 12 #[rv] w fun r w' => ∃ v e s zs, QnIs bs e s zs ∧ r = .returned (.tuple #[v, .int .i64 s, .int .i64 e]) ∧ Fresh w w' ∧
      (v = .slice none 0 0 ∧ zs = [] ∨ ∃ g, v = .slice (some ⟨g, 0, none⟩) zs.length zs.length ∧ w.heap.size ≤ g ∧ w'.ownsRow w.heap.size 37 1 v zs.length (zs.map (Value.int .i8))) := by
  have HG := show Hid _ from greatest_any p rv bs w hS hr
  by_cases g0 : 2139095040 ≤ gm bs bs.length
  · rw [if_pos g0] at HG
    have HQ : Hid (QnIs bs 30 0 []) := .inl ⟨g0, rfl, rfl, rfl⟩
    clear g0 hr
    go_enter Tryd.func12, Tryd.ntmps12
    go_wp2_with fail
    refine Calls.mono HG.out ?_
    rintro r w1 ⟨rfl, h1⟩
    go_wp2
    go_ret3
    exact ⟨_, _, _, _, HQ.out, rfl, h1, .inl ⟨rfl, rfl⟩⟩
  · rw [if_neg g0] at HG
    have gl : gm bs bs.length < 2139095040 := by omega
    clear g0
    have HD : Hid (∀ w1 : World, Fresh w w1 → Calls Tryd.prog 32 #[.int .u32 (gm bs bs.length : Nat)] w1 fun e w' => w1 = w' ∧
      ((∃ s, QnIs bs 0 s (bs.map (q8 s)) ∧ IsSc (gm bs bs.length) s ∧ e = .returned (.tuple #[.int .i64 s, .int .i64 0])) ∨ (QnIs bs 31 0 [] ∧ e = .returned (.tuple #[.int .i64 0, .int .i64 31])))) := fun w1 _ => by
      by_cases h0 : gm bs bs.length = 0
      · rw [h0]
        refine (scaleOf_zero w1).mono ?_
        rintro e w' ⟨h1, h2⟩
        exact ⟨h1, .inl ⟨0, .inr (.inr ⟨gl, .inl ⟨h0, rfl⟩, rfl, rfl⟩), .inl ⟨rfl, rfl⟩, h2⟩⟩
      · refine (scaleOf_any _ w1 gl h0).mono ?_
        rintro e w' ⟨h1, ⟨s, a1, a2, a3, a4, h2⟩ | ⟨a1, h2⟩⟩
        · have hs : IsSc (gm bs bs.length) s := .inr ⟨h0, a1, a2, a3, a4⟩
          exact ⟨h1, .inl ⟨s, .inr (.inr ⟨gl, hs, rfl, rfl⟩), hs, h2⟩⟩
        · exact ⟨h1, .inr ⟨.inr (.inl ⟨gl, h0, a1, rfl, rfl, rfl⟩), h2⟩⟩
    have HR : Hid (∀ (s : Int) (w1 : World), IsSc (gm bs bs.length) s → Fresh w w1 → Calls Tryd.prog 33 #[rv, .int .i64 s] w1 fun e w' => ∃ g, e = .returned (.slice (some ⟨g, 0, none⟩) bs.length bs.length) ∧ w1.heap.size ≤ g ∧ w'.ownsRow w1.heap.size 37 1 (.slice (some ⟨g, 0, none⟩) bs.length bs.length) bs.length (q8s s bs) ∧ Fresh w1 w') := fun s w1 h1 h2 => by
      obtain ⟨hs, hf⟩ := room_all gl h1
      exact row_own p rv bs s w1 (hr.kept h2 (fun _ _ e => e)) hs hf
    have hg2 := gm_lt bs bs.length
    clear gl hr
    generalize gm bs bs.length = G at *
    go_enter Tryd.func12, Tryd.ntmps12
    go_wp2_with fail
    refine Calls.mono HG.out ?_
    rintro r w1 ⟨rfl, h1⟩
    go_wp2_with fail
    refine (HD.out _ h1).mono ?_
    rintro r w2 ⟨rfl, ⟨s, hq, hi, rfl⟩ | ⟨hq, rfl⟩⟩
    · go_wp2_with fail
      refine (HR.out s _ hi h1).mono ?_
      rintro r w3 ⟨g, rfl, hg, ho, h3⟩
      go_wp2
      go_ret3
      have hl : (bs.map (q8 s)).length = bs.length := List.length_map _
      refine ⟨_, _, _, _, hq, rfl, h1.trans h3 (fun _ _ e => e), .inr ⟨g, by rw [hl]; rfl, Nat.le_trans h1.size hg, ?_⟩⟩
      rw [hl, List.map_map]
      exact own_low ho h1.size
    · go_wp2
      go_ret3
      exact ⟨_, _, _, _, hq, rfl, h1, .inl ⟨rfl, rfl⟩⟩

end Go.Proofs.YtmkaafnoanidpaaDoor
