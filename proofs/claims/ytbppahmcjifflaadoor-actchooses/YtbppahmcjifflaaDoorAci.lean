/-
  The statements' own call of awake.
-/
import Derived.Test.YtbppahmcjifflaaDoorAcf
import Derived.Test.YtbppahmcjifflaaDoorNof
import Derived.Test.YtbppahmcjifflaaDoorSfL
namespace Go.Proofs.YtbppahmcjifflaaDoor
open Go.RowKit Go.Lib Go.Maps

theorem two_own (W : World) (x y : Int) : (W.alloc (.cells #[.int .i8 x, .int .i8 y] 30)).ownsRow 0 30 1 (.slice (some ⟨W.heap.size, 0, none⟩) 2 2) 2 (([x, y] : List Int).map (Value.int .i8)) := ⟨rfl, .inr ⟨_, _, _, rfl, Nat.zero_le _, heap_alloc_new W _, Nat.le_refl _, by unfold maxLen; omega, rfl, rfl⟩⟩
theorem two_row (W : World) (x y : Int) (hx : C8 x) (hy : C8 y) : Rk .i8 (fun _ => True) (W.alloc (.cells #[.int .i8 x, .int .i8 y] 30)) (.slice (some ⟨W.heap.size, 0, none⟩) 2 2) [x, y] :=
  (rk_of_own (two_own W x y) (by simp [kb]) (by intro z hz; simp at hz; rcases hz with rfl | rfl <;> assumption)).mono (fun _ _ => trivial)
def awM : Mid := ⟨[64, 0], [64, 0], [1, 2], 6, 6, 0⟩
set_option maxRecDepth 100000 in
theorem awM_is : mdL awM (tbL 1) [64, 7] = [64, 128] ∧ mdE awM (tbL 1) [64, 7] = 0 := by decide +kernel
theorem aw_call (w : World) (tv : Value) (p : Nat → Prop) (ht : Rk .i8 p w tv (tbL 1)) :
    Calls Tryd.prog 16 #[.agg #[.slice (some ⟨w.heap.size, 0, none⟩) 2 2, .slice (some ⟨w.heap.size + 1, 0, none⟩) 2 2, .slice (some ⟨w.heap.size + 1 + 1, 0, none⟩) 2 2, zV 6, zV 6, zV 0], tv, .slice (some ⟨w.heap.size + 1 + 1 + 1, 0, none⟩) 2 2]
      ((((w.alloc (.cells #[.int .i8 64, .int .i8 0] 30)).alloc (.cells #[.int .i8 64, .int .i8 0] 30)).alloc (.cells #[.int .i8 1, .int .i8 2] 30)).alloc (.cells #[.int .i8 64, .int .i8 7] 30))
      fun e w' => (∃ g c, e = .returned (.tuple #[.slice (some ⟨g, 0, none⟩) 2 c, zV 0]) ∧ w'.cell? ⟨g, 0, none⟩ = some (zV 64) ∧ w'.cell? ⟨g, 1, none⟩ = some (zV 128)) ∧ Fresh w w' := by
  have r1 := two_row w 64 0 ⟨by omega, by omega⟩ ⟨by omega, by omega⟩
  have f1 : Fresh w (w.alloc (.cells #[.int .i8 64, .int .i8 0] 30)) := (Kept.refl _ _).alloc _
  have z1 : (w.alloc (.cells #[.int .i8 64, .int .i8 0] 30)).heap.size = w.heap.size + 1 := World.size_alloc _ _
  generalize w.alloc (.cells #[.int .i8 64, .int .i8 0] 30) = W1 at *
  have r2 := two_row W1 64 0 ⟨by omega, by omega⟩ ⟨by omega, by omega⟩
  have f2 : Fresh W1 (W1.alloc (.cells #[.int .i8 64, .int .i8 0] 30)) := (Kept.refl _ _).alloc _
  have z2 : (W1.alloc (.cells #[.int .i8 64, .int .i8 0] 30)).heap.size = W1.heap.size + 1 := World.size_alloc _ _
  generalize W1.alloc (.cells #[.int .i8 64, .int .i8 0] 30) = W2 at *
  have r3 := two_row W2 1 2 ⟨by omega, by omega⟩ ⟨by omega, by omega⟩
  have f3 : Fresh W2 (W2.alloc (.cells #[.int .i8 1, .int .i8 2] 30)) := (Kept.refl _ _).alloc _
  have z3 : (W2.alloc (.cells #[.int .i8 1, .int .i8 2] 30)).heap.size = W2.heap.size + 1 := World.size_alloc _ _
  generalize W2.alloc (.cells #[.int .i8 1, .int .i8 2] 30) = W3 at *
  have r4 := two_row W3 64 7 ⟨by omega, by omega⟩ ⟨by omega, by omega⟩
  have f4 : Fresh W3 (W3.alloc (.cells #[.int .i8 64, .int .i8 7] 30)) := (Kept.refl _ _).alloc _
  generalize W3.alloc (.cells #[.int .i8 64, .int .i8 7] 30) = W4 at *
  rw [z3, z2, z1] at r4
  rw [z2, z1] at r3
  rw [z1] at r2
  have h := Middle_any (fun _ => True) p (fun _ => True) _ tv _ awM (tbL 1) [64, 7] W4 ⟨_, _, _, rfl, ((r1.fresh f2).fresh f3).fresh f4, (r2.fresh f3).fresh f4, r3.fresh f4, ⟨by decide, by decide⟩, ⟨by decide, by decide⟩, ⟨by decide, by decide⟩⟩ (((((ht.fresh f1).fresh f2).fresh f3).fresh f4)) r4
  refine h.mono ?_
  rintro e w' ⟨v, he, hown, hF⟩
  rw [awM_is.1] at hown
  rw [awM_is.2] at he
  have hF' : Fresh w w' := (((f1.trans f2 (fun _ _ e => e)).trans f3 (fun _ _ e => e)).trans f4 (fun _ _ e => e)).trans hF (fun _ _ e => e)
  obtain ⟨g, cap, rfl⟩ : ∃ g cap, v = .slice (some ⟨g, 0, none⟩) 2 cap := by
    rcases hown.2 with ⟨_, e⟩ | ⟨g', cap', cur, hv, hb, _⟩
    · simp at e
    · exact ⟨g', cap', hv⟩
  exact ⟨⟨g, cap, he, hown.cellAt 0 (by decide), hown.cellAt 1 (by decide)⟩, hF'⟩

set_option maxHeartbeats 1000000 in
theorem awake_any (w : World) (hB : Bend w) : Calls Tryd.prog 9 #[] w fun e w' => e = .returned (.bool true) ∧ Fresh w w' := by
  have HT : Hid (Unit → _) := fun (_ : Unit) => Table_any 1 w hB ⟨by omega, by omega⟩
  have HL : Hid ((tbL 1).length = 256) := by show _ = _; rw [tbL_ok ⟨by omega, by omega⟩, mkL_len]
  have HC : Hid (∀ W tv p, _) := fun W tv p => aw_call W tv p
  clear hB
  rw [tbE_ok ⟨by omega, by omega⟩] at HT
  have HZ : Hid _ := tbL_c8 1
  go_enter Tryd.func9, Tryd.ntmps9
  go_wp2_with fail
  refine (HT.out ()).mono ?_
  rintro e w1 hg
  obtain ⟨v, rfl, hr, hF1⟩ := hg.row (by rw [HL.out]; simp [kb]) HZ.out
  clear hg HT HZ
  obtain ⟨ao, ac, rfl, _⟩ := hr.shape
  rw [HL.out] at hr ⊢
  have HC1 : Hid (Unit → _) := fun (_ : Unit) => HC.out w1 _ _ hr
  have HF1 : Hid (Fresh w w1) := hF1
  clear hr HC HL hF1
  go_wp2_with fail
  refine (HC1.out ()).mono ?_
  rintro e w2 ⟨⟨g, c, rfl, c0, c1⟩, hF2⟩
  have HF2 : Hid (Fresh w w2) := HF1.out.trans hF2 (fun _ _ e => e)
  clear HC1 hF2 HF1
  go_wp2
  go_ret
  exact ⟨rfl, HF2.out⟩
end Go.Proofs.YtbppahmcjifflaaDoor
