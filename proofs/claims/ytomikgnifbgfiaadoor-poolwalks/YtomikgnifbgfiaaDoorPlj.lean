/-
  step: something that is done to a pool and to the document's.
-/
import Derived.Test.YtomikgnifbgfiaaDoorPli
namespace Go.Proofs.YtomikgnifbgfiaaDoor
open Go.RowKit

/-- A pool's calls leave what lies elsewhere. -/
theorem Turned.fresh {w w0 w' : World} {F : Nat → Prop} {b : Nat} {l : List (Option Int)} (hF : Fresh w w0) (h : Turned w0 F b l w') : Turned w F b l w' := by
  obtain ⟨F', h1, h2, h3⟩ := h
  refine ⟨F', h1, ⟨h2.os.trans hF.os, h2.tape.trans hF.tape, h2.output.trans hF.output, Nat.le_trans hF.size h2.size, fun i hi hn => (h2.block i (Nat.lt_of_lt_of_le hi hF.size) hn).trans (hF.block i hi (fun e => e))⟩, fun k hk e => h3 k (Nat.lt_of_lt_of_le hk hF.size) e⟩
theorem Turned.then {w w' w'' : World} {F : Nat → Prop} {b : Nat} {l : List (Option Int)} (h : Turned w F b l w') (hF : Fresh w' w'') : Turned w F b l w'' := by
  obtain ⟨F', h1, h2, h3⟩ := h
  exact ⟨F', h1.kept hF (fun _ _ e => e), h2.trans hF (fun _ _ e => e.elim), h3⟩
theorem Turned.same {w w' : World} {F : Nat → Prop} {b : Nat} {l : List (Option Int)} (h : PoolAt w F b l) (hF : Fresh w w') : Turned w F b l w' :=
  ⟨F, h.kept hF (fun _ _ e => e), hF.mono (fun _ _ e => e.elim), fun _ _ e => e⟩
theorem RefAt.turned {w w' : World} {v : Value} {l m m' : List (Option Int)} {F : Nat → Prop} {b : Nat} (h : RefAt w v l) (hp : PoolAt w F b m) (ht : Turned w F b m' w') : RefAt w' v l := by
  obtain ⟨F', _, h2, _⟩ := ht
  exact h.kept hp h2

/-- What a step leaves. -/
def StepO (w : World) (F : Nat → Prop) (b : Nat) (l : List (Option Int)) (w' : World) (v' : Value) : Prop := ∃ l', RefAt w' v' l' ∧ Turned w F b l' w' ∧ l'.length = l.length

set_option maxRecDepth 100000 in
set_option maxHeartbeats 4000000 in
theorem step_any (F : Nat → Prop) (b : Nat) (v : Value) (l : List (Option Int)) (k p x : Int) (w : World) (h : PoolAt w F b l) (hr : RefAt w v l) (hT : Tab w) :
    Calls Tryd.prog 10 #[.pointer (some ⟨b, 0, none⟩), v, .agg #[.int .i64 k, .int .i64 p, .int .i64 x]] w fun e w' => ∃ v', e = .returned (.tuple #[v', .bool true]) ∧ StepO w F b l w' v' := by
  have hk1 : -6 < k.tmod 6 ∧ k.tmod 6 < 6 := ⟨by have := Int.lt_tmod_of_pos k (show (0 : Int) < 6 by omega); omega, Int.tmod_lt_of_pos k (by omega)⟩
  obtain ⟨hka, hkb⟩ := hk1
  have hm : (k.tmod 6 + 6) % 6 = 0 ∨ (k.tmod 6 + 6) % 6 = 1 ∨ (k.tmod 6 + 6) % 6 = 2 ∨ (k.tmod 6 + 6) % 6 = 3 ∨ (k.tmod 6 + 6) % 6 = 4 ∨ (k.tmod 6 + 6) % 6 = 5 := by omega
  have hF0 : Fresh w (w.alloc (.cells #[.int .i64 k, .int .i64 p, .int .i64 x] 30)) := (Kept.refl _ w).alloc _
  have hb0 : (w.alloc (.cells #[.int .i64 k, .int .i64 p, .int .i64 x] 30)).heap[w.heap.size]? = some (.cells #[.int .i64 k, .int .i64 p, .int .i64 x] 30 (0, 0)) := heap_alloc_new w _
  have hP0 := h.kept hF0 (fun _ _ e => e)
  have hR0 := hr.fresh hF0
  have hT0 := hT.kept hF0 (fun e => e)
  have hbl : ∀ k, F k → k < w.heap.size := fun k hk => h.lt hk
  have HB : Hid (∀ (W W' : World) (l' : List (Option Int)) , W.heap[w.heap.size]? = some (.cells #[.int .i64 k, .int .i64 p, .int .i64 x] 30 (0, 0)) → Turned W F b l' W' → W'.cell? ⟨w.heap.size, 0, none⟩ = some (.int .i64 k) ∧ W'.cell? ⟨w.heap.size, 1, none⟩ = some (.int .i64 p) ∧ W'.cell? ⟨w.heap.size, 2, none⟩ = some (.int .i64 x)) := by
    intro W W' l' hW ht
    obtain ⟨F', _, h2, _⟩ := ht
    have := h2.at hW (fun e => by have := hbl _ e; omega)
    simp [World.cell?, this]
  have HBF : Hid (∀ (W W' : World), W.heap[w.heap.size]? = some (.cells #[.int .i64 k, .int .i64 p, .int .i64 x] 30 (0, 0)) → Fresh W W' → W'.heap[w.heap.size]? = some (.cells #[.int .i64 k, .int .i64 p, .int .i64 x] 30 (0, 0)) ∧ W'.cell? ⟨w.heap.size, 0, none⟩ = some (.int .i64 k) ∧ W'.cell? ⟨w.heap.size, 1, none⟩ = some (.int .i64 p) ∧ W'.cell? ⟨w.heap.size, 2, none⟩ = some (.int .i64 x)) := by
    intro W W' hW hk
    have := hk.at hW (fun e => e)
    exact ⟨this, by simp [World.cell?, this]⟩
  have HF0 : Hid _ := fun (_ : Unit) => hF0
  have HB0 : Hid _ := fun (_ : Unit) => hb0
  have HP0 : Hid _ := fun (_ : Unit) => hP0
  have HR0 : Hid _ := fun (_ : Unit) => hR0
  have HT0 : Hid _ := fun (_ : Unit) => hT0
  have hll := hr.2
  obtain ⟨ao, cap, hv⟩ := slice_shape hr.1
  clear h hr hT hF0 hb0 hP0 hR0 hT0
  subst hv
  rcases hm with hm | hm | hm | hm | hm | hm
  · go_enter Tryd.func10, Tryd.ntmps10
    go_wp2_with fail
    refine (take_ref _ l x _ (HR0.out ())).mono ?_
    rintro e w1 ⟨v1, rfl, hR1, hF1⟩
    obtain ⟨hbk, d0, d1, d2⟩ := HBF.out _ _ (HB0.out ()) hF1
    have HP1 : Hid _ := fun (_ : Unit) => (HP0.out ()).kept hF1 (fun _ _ e => e)
    have HT1 : Hid _ := fun (_ : Unit) => (HT0.out ()).kept hF1 (fun e => e)
    obtain ⟨ao1, cap1, hv1⟩ := slice_shape hR1.1
    have HR1 : Hid _ := fun (_ : Unit) => hR1
    have HF1 : Hid _ := fun (_ : Unit) => (HF0.out ()).trans hF1 (fun _ _ e => e)
    clear hR1 hF1 hbk
    subst hv1
    go_wp2_with fail
    refine (take_tk F b l x _ (HP1.out ()) (HT1.out ())).mono ?_
    rintro e w2 ⟨rfl, ht2⟩
    have HO : Hid (StepO w F b l w2 _) := ⟨tkL l x, (HR1.out ()).turned (HP1.out ()) ht2, ht2.fresh (HF1.out ()), tkL_length l x⟩
    clear ht2
    generalize (tkL l x).length = n1 at *
    generalize tkI l = t1 at *
    generalize tkE l = t2 at *
    go_wp2
    go_ret2
    exact ⟨_, rfl, HO.out⟩
  · go_enter Tryd.func10, Tryd.ntmps10
    go_wp2_with fail
    refine (give_rv _ l p _ (HR0.out ())).mono ?_
    rintro e w1 ⟨v1, rfl, hR1, hF1⟩
    obtain ⟨hbk, d0, d1, d2⟩ := HBF.out _ _ (HB0.out ()) hF1
    have HP1 : Hid _ := fun (_ : Unit) => (HP0.out ()).kept hF1 (fun _ _ e => e)
    obtain ⟨ao1, cap1, hv1⟩ := slice_shape hR1.1
    have HR1 : Hid _ := fun (_ : Unit) => hR1
    have HF1 : Hid _ := fun (_ : Unit) => (HF0.out ()).trans hF1 (fun _ _ e => e)
    clear hR1 hF1 hbk
    subst hv1
    go_wp2_with fail
    refine (give_gv F b l p _ (HP1.out ())).mono ?_
    rintro e w2 ⟨rfl, ht2⟩
    have HO : Hid (StepO w F b l w2 _) := ⟨gvL l p, (HR1.out ()).turned (HP1.out ()) ht2, ht2.fresh (HF1.out ()), gvL_length l p⟩
    clear ht2
    generalize (gvL l p).length = n1 at *
    generalize (gt l p).getD 0 = t1 at *
    generalize gvE l p = t2 at *
    go_wp2
    go_ret2
    exact ⟨_, rfl, HO.out⟩
  · go_enter Tryd.func10, Tryd.ntmps10
    go_wp2_with fail
    refine (get_ref _ l p _ (HR0.out ())).mono ?_
    rintro e w1 ⟨rfl, rfl⟩
    go_wp2_with fail
    refine (get_any F b l p _ (HP0.out ())).mono ?_
    rintro e w1 ⟨rfl, rfl⟩
    have HO : Hid (StepO w F b l _ _) := ⟨l, HR0.out (), (Turned.same (HP0.out ()) (Kept.refl _ _)).fresh (HF0.out ()), rfl⟩
    generalize (gt l p).getD 0 = t1 at *
    generalize (gt l p).isSome = t2 at *
    go_wp2
    go_ret2
    exact ⟨_, rfl, HO.out⟩
  · go_enter Tryd.func10, Tryd.ntmps10
    go_wp2_with fail
    refine (set_rv _ l p x _ (HR0.out ())).mono ?_
    rintro e w1 ⟨v1, rfl, hR1, hF1⟩
    obtain ⟨hbk, d0, d1, d2⟩ := HBF.out _ _ (HB0.out ()) hF1
    have HP1 : Hid _ := fun (_ : Unit) => (HP0.out ()).kept hF1 (fun _ _ e => e)
    obtain ⟨ao1, cap1, hv1⟩ := slice_shape hR1.1
    have HR1 : Hid _ := fun (_ : Unit) => hR1
    have HF1 : Hid _ := fun (_ : Unit) => (HF0.out ()).trans hF1 (fun _ _ e => e)
    clear hR1 hF1 hbk
    subst hv1
    go_wp2_with fail
    refine (set_st F b l p x _ (HP1.out ())).mono ?_
    rintro e w2 ⟨rfl, ht2⟩
    have HO : Hid (StepO w F b l w2 _) := ⟨stL l p x, (HR1.out ()).turned (HP1.out ()) ht2, ht2.fresh (HF1.out ()), stL_length l p x⟩
    clear ht2
    generalize (stL l p x).length = n1 at *
    generalize gvE l p = t2 at *
    go_wp2
    go_ret2
    exact ⟨_, rfl, HO.out⟩
  · have hul := used_le l
    have hu2 : ((l.length - used l : Nat) : Int) = (l.length : Int) - (used l : Int) := by omega
    go_enter Tryd.func10, Tryd.ntmps10
    go_wp2_with fail
    refine (used_ref _ l _ (HR0.out ())).mono ?_
    rintro e w1 ⟨rfl, rfl⟩
    go_wp2_with fail
    refine (used_any F b l _ (HP0.out ())).mono ?_
    rintro e w1 ⟨rfl, n1, rfl⟩
    go_wp2_with fail
    refine (free_any F b l _ ((HP0.out ()).drewN n1)).mono ?_
    rintro e w1 ⟨rfl, n2, rfl⟩
    have hFn : Fresh w (((w.alloc (.cells #[.int .i64 k, .int .i64 p, .int .i64 x] 30)).drewN n1).drewN n2) := ((HF0.out ()).drewN n1).drewN n2
    have HO : Hid (StepO w F b l (((w.alloc (.cells #[.int .i64 k, .int .i64 p, .int .i64 x] 30)).drewN n1).drewN n2) (.slice ao l.length cap)) := ⟨l, (HR0.out ()).fresh (((Kept.refl _ _).drewN n1).drewN n2), (Turned.same (HP0.out ()) (((Kept.refl _ _).drewN n1).drewN n2)).fresh (HF0.out ()), rfl⟩
    rw [hu2]
    clear hu2
    generalize ((w.alloc (.cells #[.int .i64 k, .int .i64 p, .int .i64 x] 30)).drewN n1).drewN n2 = X at *
    generalize used l = t1 at *
    go_wp2
    go_ret2
    exact ⟨_, rfl, HO.out⟩
  · go_enter Tryd.func10, Tryd.ntmps10
    go_wp2_with fail
    refine (whole_any F b _ l _ (HP0.out ()) (HR0.out ())).mono ?_
    rintro e w1 ⟨rfl, hF1⟩
    have HO : Hid (StepO w F b l w1 (.slice ao l.length cap)) := ⟨l, (HR0.out ()).fresh hF1, (Turned.same (HP0.out ()) hF1).fresh (HF0.out ()), rfl⟩
    clear hF1
    go_wp2
    go_ret2
    exact ⟨_, rfl, HO.out⟩
end Go.Proofs.YtomikgnifbgfiaaDoor
