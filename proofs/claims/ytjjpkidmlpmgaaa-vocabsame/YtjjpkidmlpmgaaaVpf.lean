/-
  Same: of any two vocabularies.
-/
import Derived.Test.YtjjpkidmlpmgaaaVpe
namespace Go.Proofs.Ytjjpkidmlpmgaaa
open Go.RowKit Go.Lib Go.Maps

/-- Whether two vocabularies are the same. -/
def smB (T T' : List (List UInt8)) (M M' : List Mg) : Bool := decide (T = T') && decide (M = M')
theorem smB_refl (T : List (List UInt8)) (M : List Mg) : smB T T M M = true := by simp [smB]
theorem smB_symm (T T' : List (List UInt8)) (M M' : List Mg) : smB T' T M' M = smB T T' M M' := by
  unfold smB
  rw [decide_eq_decide.2 (eq_comm (a := T') (b := T)), decide_eq_decide.2 (eq_comm (a := M') (b := M))]
set_option maxHeartbeats 2000000 in
set_option maxRecDepth 100000 in
theorem Same_any {p q : Nat → Prop} (w : World) (tv mv tv' mv' : Value) (T T' : List (List UInt8)) (M M' : List Mg) (hT : TxR p w tv T) (hM : MgR p w mv M) (hT' : TxR q w tv' T') (hM' : MgR q w mv' M') (hM24 : M.length * 24 ≤ 140737488351232) :
    Calls Try.prog 19 #[.agg #[tv, mv], .agg #[tv', mv']] w fun e w' => e = .returned (.bool (smB T T' M M')) ∧ Fresh w w' := by
  have hF1 : Fresh w ((w.alloc (.cells #[tv, mv] 25)).alloc (.cells #[tv', mv'] 25)) := ((Kept.refl _ w).alloc _).alloc _
  have s1 : (w.alloc (.cells #[tv, mv] 25)).heap.size = w.heap.size + 1 := by rw [World.size_alloc]
  have h0 : ((w.alloc (.cells #[tv, mv] 25)).alloc (.cells #[tv', mv'] 25)).heap[w.heap.size]? = some (.cells #[tv, mv] 25 (0, 0)) := by rw [Below.heap_alloc _ _ _ (by omega)]; exact heap_alloc_new _ _
  have h1 : ((w.alloc (.cells #[tv, mv] 25)).alloc (.cells #[tv', mv'] 25)).heap[w.heap.size + 1]? = some (.cells #[tv', mv'] 25 (0, 0)) := by rw [← s1]; exact heap_alloc_new _ _
  have HC1 : Hid _ := equalT_any _ tv tv' T T' (hT.fresh hF1) (hT'.fresh hF1)
  have HC2 : Hid (∀ W, Fresh w W → Calls Try.prog 30 #[mv, mv'] W fun e w' => e = .returned (.bool (decide (M = M'))) ∧ Fresh W w') := fun W hk => equalM_any W mv mv' M M' (hM.fresh hk) (hM'.fresh hk) hM24
  have HB : Hid (∀ W, Fresh ((w.alloc (.cells #[tv, mv] 25)).alloc (.cells #[tv', mv'] 25)) W → W.cell? ⟨w.heap.size, 0, none⟩ = some tv ∧ W.cell? ⟨w.heap.size, 1, none⟩ = some mv ∧ W.cell? ⟨w.heap.size + 1, 0, none⟩ = some tv' ∧ W.cell? ⟨w.heap.size + 1, 1, none⟩ = some mv') := fun W hk => by
    have hb0 := hk.at h0 (fun e => e)
    have hb1 := hk.at h1 (fun e => e)
    exact ⟨Lib.cell_of_heap hb0 0, Lib.cell_of_heap hb0 1, Lib.cell_of_heap hb1 0, Lib.cell_of_heap hb1 1⟩
  have HF1 : Hid _ := hF1
  have HS : Hid (∀ a b, decide (T = T') = a → decide (M = M') = b → smB T T' M M' = (a && b)) := fun a b e1 e2 => by rw [smB, e1, e2]
  obtain ⟨ta, tc, rfl⟩ := hT.shape
  obtain ⟨ma, mc, rfl⟩ := hM.shape
  obtain ⟨ta', tc', rfl⟩ := hT'.shape
  obtain ⟨ma', mc', rfl⟩ := hM'.shape
  clear hT hT' hM hM' hF1 h0 h1 s1
  generalize T.length = n1 at *
  generalize T'.length = n2 at *
  generalize M.length = n3 at *
  generalize M'.length = n4 at *
  generalize hq1 : decide (T = T') = q1 at *
  generalize hq2 : decide (M = M') = q2 at *
  have HS1 : Hid (smB T T' M M' = (q1 && q2)) := HS.out _ _ rfl rfl
  clear HS hq1 hq2
  generalize smB T T' M M' = q3 at *
  generalize hW : (w.alloc (.cells #[.slice ta n1 tc, .slice ma n3 mc] 25)).alloc (.cells #[.slice ta' n2 tc', .slice ma' n4 mc'] 25) = W at *
  obtain ⟨x0, x1, x2, x3⟩ := HB.out W (Kept.refl _ W)
  go_enter Try.func19, Try.ntmps19
  go_wp2_with fail
  clear hW
  refine Calls.mono HC1.out ?_
  rintro e W2 ⟨rfl, hF2⟩
  obtain ⟨y0, y1, y2, y3⟩ := HB.out W2 hF2
  have HF2 : Hid (Fresh w W2) := HF1.out.trans hF2 (fun _ _ e => e)
  have HC3 := show Hid _ from HC2.out W2 HF2.out
  clear HC1 HC2 hF2 x0 x1 x2 x3 HB
  cases q1 with
  | false =>
    go_wp2
    go_ret
    exact ⟨by rw [HS1.out]; rfl, HF2.out⟩
  | true =>
    go_wp2_with fail
    refine Calls.mono HC3.out ?_
    rintro e W3 ⟨rfl, hF3⟩
    have HF3 : Hid (Fresh w W3) := HF2.out.trans hF3 (fun _ _ e => e)
    clear HC3 hF3
    go_wp2
    go_ret
    exact ⟨by rw [HS1.out]; cases q2 <;> rfl, HF3.out⟩
end Go.Proofs.Ytjjpkidmlpmgaaa
