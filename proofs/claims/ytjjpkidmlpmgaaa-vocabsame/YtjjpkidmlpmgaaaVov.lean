/-
  A small vocabulary; awake.
-/
import Derived.Test.YtjjpkidmlpmgaaaVou
namespace Go.Proofs.Ytjjpkidmlpmgaaa
open Go.RowKit Go.Lib Go.Maps

def T0 : List (List UInt8) := [[], [97], [98], [97, 98], [97, 98, 98]]
def M0 : List Mg := [⟨1, 2, 3⟩, ⟨3, 2, 4⟩]
theorem en0 : enR T0 M0 [97, 98, 98] = [4] ∧ enE T0 M0 [97, 98, 98] = 0 := by decide +kernel
theorem de0 : deS T0 M0 [4, 0, 1] = [97, 98, 98, 97] ∧ deE T0 M0 [4, 0, 1] = 0 := by decide +kernel
abbrev ob0 (w : World) : Obj := .cells #[.slice (some ⟨w.heap.size + 1, 0, none⟩) 5 5, .slice (some ⟨w.heap.size + 1 + 1, 0, none⟩) 2 2] 25
abbrev ob1 : Obj := .cells #[.string ⟨#[]⟩, .string ⟨#[97]⟩, .string ⟨#[98]⟩, .string ⟨#[97, 98]⟩, .string ⟨#[97, 98, 98]⟩] 9
abbrev ob2 : Obj := .cells #[zV 1, zV 2, zV 3, zV 3, zV 2, zV 4] 52
theorem small_rows (w : World) : TxR (fun b => w.heap.size ≤ b ∧ b < (((w.alloc (ob0 w)).alloc ob1).alloc ob2).heap.size) (((w.alloc (ob0 w)).alloc ob1).alloc ob2) (.slice (some ⟨w.heap.size + 1, 0, none⟩) 5 5) T0 ∧
    MgR (fun b => w.heap.size ≤ b ∧ b < (((w.alloc (ob0 w)).alloc ob1).alloc ob2).heap.size) (((w.alloc (ob0 w)).alloc ob1).alloc ob2) (.slice (some ⟨w.heap.size + 1 + 1, 0, none⟩) 2 2) M0 := by
  have s1 : (w.alloc (ob0 w)).heap.size = w.heap.size + 1 := by rw [World.size_alloc]
  have s2 : ((w.alloc (ob0 w)).alloc ob1).heap.size = w.heap.size + 1 + 1 := by rw [World.size_alloc, s1]
  have s3 : (((w.alloc (ob0 w)).alloc ob1).alloc ob2).heap.size = w.heap.size + 1 + 1 + 1 := by rw [World.size_alloc, s2]
  have h2 : (((w.alloc (ob0 w)).alloc ob1).alloc ob2).heap[w.heap.size + 1 + 1]? = some ob2 := by rw [← s2]; exact heap_alloc_new _ _
  have h1 : (((w.alloc (ob0 w)).alloc ob1).alloc ob2).heap[w.heap.size + 1]? = some ob1 := by
    rw [Below.heap_alloc _ _ _ (by omega), ← s1]; exact heap_alloc_new _ _
  have c1 := fun j => Lib.cell_of_heap h1 j
  have c2 := fun j => Lib.cell_of_heap h2 j
  constructor
  · refine ⟨_, 5, rfl, fun e => (by cases e), Nat.le_refl _, ?_, by decide, fun _ => ⟨w.heap.size + 1, 0, rfl, ⟨by omega, by omega⟩, by omega, fun i hi => ?_⟩⟩
    · intro i hi
      have hi5 : i < 5 := hi
      have : i = 0 ∨ i = 1 ∨ i = 2 ∨ i = 3 ∨ i = 4 := by omega
      rcases this with rfl | rfl | rfl | rfl | rfl <;> decide
    · have hi5 : i < 5 := hi
      have : i = 0 ∨ i = 1 ∨ i = 2 ∨ i = 3 ∨ i = 4 := by omega
      rcases this with rfl | rfl | rfl | rfl | rfl <;> exact c1 _
  · refine ⟨_, 2, rfl, fun e => (by cases e), Nat.le_refl _, ?_, fun _ => ⟨w.heap.size + 1 + 1, 0, rfl, ⟨by omega, by omega⟩, by omega, fun i hi => ?_⟩⟩
    · intro i hi
      have hi2 : i < 2 := hi
      have : i = 0 ∨ i = 1 := by omega
      rcases this with rfl | rfl <;> exact ⟨⟨by decide, by decide⟩, ⟨by decide, by decide⟩, ⟨by decide, by decide⟩⟩
    · have hi2 : i < 2 := hi
      have : i = 0 ∨ i = 1 := by omega
      rcases this with rfl | rfl <;> exact ⟨c2 _, c2 _, c2 _⟩
theorem small_zero (w : World) : (((w.alloc (ob0 w)).alloc ob1).alloc ob2).heap[w.heap.size]? = some (ob0 w) := by
  have s1 : (w.alloc (ob0 w)).heap.size = w.heap.size + 1 := by rw [World.size_alloc]
  have s2 : ((w.alloc (ob0 w)).alloc ob1).heap.size = w.heap.size + 1 + 1 := by rw [World.size_alloc, s1]
  rw [Below.heap_alloc _ _ _ (by omega), Below.heap_alloc _ _ _ (by omega)]
  exact heap_alloc_new _ _
theorem vocSize : (Try.prog.info? 25).map (·.size) = some 2 := by kernel_rfl
set_option maxHeartbeats 1000000 in
set_option maxRecDepth 100000 in
theorem small_any (w : World) : Calls Try.prog 24 #[] w fun e w' => ∃ tv mv, e = .returned (.agg #[tv, mv]) ∧ TxR (fun b => w.heap.size ≤ b ∧ b < w'.heap.size) w' tv T0 ∧ MgR (fun b => w.heap.size ≤ b ∧ b < w'.heap.size) w' mv M0 ∧ Fresh w w' := by
  have HR := show Hid _ from small_rows w
  have HZ := show Hid _ from small_zero w
  go_enter Try.func24, Try.ntmps24
  go_wp2
  exact bodyPost_ret (results_cell_row rfl _ _ w.heap.size _ _ _ _ rfl HZ.out Try.underlying25 rfl vocSize) rfl ⟨_, _, rfl, HR.out.1, HR.out.2, (((Kept.refl _ w).alloc _).alloc _).alloc _⟩
set_option maxHeartbeats 1000000 in
set_option maxRecDepth 100000 in
theorem awake_any (w : World) : Calls Try.prog 12 #[] w fun e w' => e = .returned (.bool true) ∧ Fresh w w' := by
  have HS : Hid (∀ W, _) := fun W => small_any W
  have HEn : Hid (∀ (W : World) p tv mv, TxR p W tv T0 → MgR p W mv M0 → Calls Try.prog 14 #[.agg #[tv, mv], .string ⟨#[97, 98, 98]⟩] W fun e X' => ∃ v, e = .returned (.tuple #[v, zV (enP T0 M0 [97, 98, 98]), zV 0]) ∧ Rs W.heap.size X' [RI v [4]] ∧ Fresh W X') := fun W p tv mv hT hM => by
    have := Encode_any W tv mv T0 M0 [97, 98, 98] hT hM (by decide)
    rw [en0.1, en0.2] at this
    exact this
  have HDe : Hid (∀ (W : World) p q tv mv lv, TxR p W tv T0 → MgR p W mv M0 → Rk .i64 q W lv [4, 0, 1] → Calls Try.prog 17 #[.agg #[tv, mv], lv] W fun e X' => e = .returned (.tuple #[.string ⟨#[97, 98, 98, 97]⟩, zV (deP T0 M0 [4, 0, 1]), zV 0]) ∧ Fresh W X') := fun W p q tv mv lv hT hM hL => by
    have := Decode_any W tv mv lv T0 M0 [4, 0, 1] hT hM hL (by decide)
    rw [de0.1, de0.2] at this
    exact this
  generalize enP T0 M0 [97, 98, 98] = ep at *
  generalize deP T0 M0 [4, 0, 1] = dp at *
  go_enter Try.func12, Try.ntmps12
  go_wp2_with fail
  refine Calls.mono (HS.out _) ?_
  rintro e W1 ⟨tv, mv, rfl, hT1, hM1, hF1⟩
  have HC := show Hid _ from HEn.out W1 _ tv mv hT1 hM1
  have HF1 : Hid (Fresh w W1) := hF1
  obtain ⟨ta, tc, rfl⟩ := hT1.shape
  obtain ⟨ma, mc, rfl⟩ := hM1.shape
  clear hT1 hM1 hF1 HEn
  go_wp2_with fail
  refine Calls.mono HC.out ?_
  rintro e W2 ⟨v, rfl, hR2, hF2⟩
  have HF2 : Hid (Fresh w W2) := HF1.out.trans hF2 (fun _ _ e => e)
  obtain ⟨ao, c, hv⟩ := hR2.shapeI
  have hv' : v = .slice ao 1 c := hv
  subst hv'
  have HR2 : Hid (∀ W, Fresh W2 W → ∃ g, ao = some ⟨g, 0, none⟩ ∧ W.cell? ⟨g, 0, none⟩ = some (zV 4)) := fun W hW => by
    have h1 := hR2.fresh hW
    rcases h1.head.2 with ⟨e', _⟩ | ⟨g, cap, cur, hv', _⟩
    · cases e'
    · have hv2 : Value.slice ao 1 c = .slice (some ⟨g, 0, none⟩) 1 cap := hv'
      injection hv2 with e1 _ e3
      subst e1
      exact ⟨g, rfl, h1.geI rfl 0 (by omega)⟩
  clear HC hR2 hF2 hv HF1
  go_wp2_with fail
  refine Calls.mono (HS.out _) ?_
  rintro e W3 ⟨tv, mv, rfl, hT3, hM3, hF3⟩
  have HF3 : Hid (Fresh W2 W3) := hF3
  have hF34 : Fresh W3 (W3.alloc (.cells #[zV 4, zV 0, zV 1] 3)) := (Kept.refl _ W3).alloc _
  have hRk : Rk .i64 (fun _ => True) (W3.alloc (.cells #[zV 4, zV 0, zV 1] 3)) (.slice (some ⟨W3.heap.size, 0, none⟩) 3 3) [4, 0, 1] := by
    refine ⟨_, 3, rfl, by decide, fun _ => ⟨W3.heap.size, 0, rfl, trivial, by rw [World.size_alloc]; omega, fun i hi => ?_⟩, fun z hz => ?_, fun e => (by cases e), Nat.le_refl _⟩
    · rw [Nat.zero_add, World.cell?_alloc_new]
      have hi3 : i < 3 := hi
      have : i = 0 ∨ i = 1 ∨ i = 2 := by omega
      rcases this with rfl | rfl | rfl <;> rfl
    · simp at hz
      rcases hz with rfl | rfl | rfl <;> exact ⟨by decide, by decide⟩
  have HC := show Hid _ from HDe.out _ _ _ tv mv _ (hT3.fresh hF34) (hM3.fresh hF34) hRk
  have HF4 : Hid (Fresh W2 (W3.alloc (.cells #[zV 4, zV 0, zV 1] 3))) := HF3.out.trans hF34 (fun _ _ e => e)
  obtain ⟨ta3, tc3, rfl⟩ := hT3.shape
  obtain ⟨ma3, mc3, rfl⟩ := hM3.shape
  clear hT3 hM3 hF3 HDe HS hRk hF34 HF3
  go_wp2_with fail
  refine Calls.mono HC.out ?_
  rintro e W5 ⟨rfl, hF5⟩
  have HF5 : Hid (Fresh W2 W5) := HF4.out.trans hF5 (fun _ _ e => e)
  obtain ⟨g, rfl, hc⟩ := HR2.out W5 HF5.out
  clear HC hF5 HF4 HR2
  go_wp2
  go_ret
  exact ⟨rfl, HF2.out.trans HF5.out (fun _ _ e => e)⟩
end Go.Proofs.Ytjjpkidmlpmgaaa
