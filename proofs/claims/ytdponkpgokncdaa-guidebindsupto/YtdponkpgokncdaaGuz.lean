/-
  What is behind a token: the document's Next.
-/
import Derived.Test.YtdponkpgokncdaaGuy
import Derived.Test.YtdponkpgokncdaaVoz
namespace Go.Proofs.Ytdponkpgokncdaa
open Go.RowKit Go.Lib Go.Maps

/-- What is behind a token, as a number. -/
def nxF (A : List Bool) (E : List Ed) (T : List (List UInt8)) (M : List Mg) (s k : Int) : Int := if vcE T M = 0 ∧ 0 < k ∧ k < (T.length : Int) then wlF A E s (gT T k.toNat) else -1
/-- Two boxes. -/
theorem box2 (w : World) (c1 c2 : Array Value) (t1 t2 : TypeId) : ∀ X, Fresh ((w.alloc (.cells c1 t1)).alloc (.cells c2 t2)) X → Fresh w X ∧ X.heap[w.heap.size]? = some (.cells c1 t1 (0, 0)) ∧ X.heap[w.heap.size + 1]? = some (.cells c2 t2 (0, 0)) := fun X hk => by
  have h1 : Fresh w ((w.alloc (.cells c1 t1)).alloc (.cells c2 t2)) := ((Kept.refl _ w).alloc _).alloc _
  have h2 : Fresh (w.alloc (.cells c1 t1)) ((w.alloc (.cells c1 t1)).alloc (.cells c2 t2)) := (Kept.refl _ _).alloc _
  have h3 := heap_alloc_new (w.alloc (.cells c1 t1)) (.cells c2 t2)
  rw [World.size_alloc] at h3
  exact ⟨h1.trans hk (fun _ _ e => e), hk.at (h2.at (heap_alloc_new w (.cells c1 t1)) (fun e => e)) (fun e => e), hk.at h3 (fun e => e)⟩
set_option maxHeartbeats 500000 in
set_option maxRecDepth 100000 in
theorem rnext_any {p q : Nat → Prop} (A : List Bool) (E : List Ed) (T : List (List UInt8)) (M : List Mg) (an en tv mv : Value) (w : World) (hA : RbL p w an A) (hE : EdR p w en E) (hT : TxR q w tv T) (hM : MgR q w mv M) (s k : Int) :
    Calls Try.prog 24 #[.agg #[an, en], .agg #[tv, mv], zV s, zV k] w fun e w' => e = .returned (zV (nxF A E T M s k)) ∧ Fresh w w' := by
  have hF1 : Fresh w ((w.alloc (.cells #[an, en] 28)).alloc (.cells #[tv, mv] 55)) := ((Kept.refl _ w).alloc _).alloc _
  have HC := show Hid _ from refCheck_any _ tv mv T M (hT.fresh hF1) (hM.fresh hF1)
  have HB := show Hid _ from box2 w #[an, en] #[tv, mv] 28 55
  have HWK : Hid (vcE T M = 0 → ∀ X, Fresh w X → ∀ i, i < T.length → Calls Try.prog 17 #[.agg #[an, en], zV s, sV (gT T i)] X fun e w' => e = .returned (zV (wlF A E s (gT T i))) ∧ Fresh X w') := fun h0 X hX i hi => by
    have hl := good_64 (vcE_zero h0).1 i hi
    have h2 := rwalk_any A E an en X (hA.fresh hX) (hE.fresh hX) s ⟨(gT T i).toArray⟩ (by simp only [ByteArray.size, List.size_toArray]; omega)
    simpa using h2
  have HTX : Hid (∀ X, Fresh w X → TxR q X tv T) := fun X hX => hT.fresh hX
  obtain ⟨ta, tc, rfl⟩ := hT.shape
  obtain ⟨ma, mc, rfl⟩ := hM.shape
  obtain ⟨ao, ac, rfl⟩ := hA.shape
  obtain ⟨eo, ec, rfl⟩ := hE.shape
  clear hA hE hF1 hT hM
  have HZ : Hid (∀ i : Nat, k = (i : Int) → vcE T M = 0 → 0 < k → k < (T.length : Int) → nxF A E T M s k = wlF A E s (gT T i)) := fun i e h1 h2 h3 => by
    show _ = _
    unfold nxF
    rw [if_pos ⟨h1, h2, h3⟩, e, Int.toNat_natCast]
  have HZ2 : Hid (¬ (vcE T M = 0 ∧ 0 < k ∧ k < (T.length : Int)) → nxF A E T M s k = -1) := fun h => if_neg h
  generalize nxF A E T M s k = Z at *
  generalize vcE T M = ce at *
  generalize vcP T M = cp at *
  generalize A.length = na at *
  generalize E.length = ne at *
  generalize M.length = nm at *
  generalize hn : T.length = n at *
  have HN : Hid (T.length = n) := hn
  clear hn
  go_enter Try.func24, Try.ntmps24
  go_wp2_with fail
  refine Calls.mono HC.out ?_
  rintro e X ⟨rfl, hf⟩
  obtain ⟨hfw, hb0, hb1⟩ := HB.out X hf
  have x0 : X.cell? ⟨w.heap.size + 1, 0, none⟩ = some (.slice ta n tc) := by rw [Lib.cell_of_heap hb1]; rfl
  have HF := show Hid _ from hfw
  have HBX : Hid (∀ d, Fresh X d → d.cell? ⟨w.heap.size, 0, none⟩ = some (.slice ao na ac) ∧ d.cell? ⟨w.heap.size, 1, none⟩ = some (.slice eo ne ec) ∧ d.cell? ⟨w.heap.size + 1, 0, none⟩ = some (.slice ta n tc)) := fun d hd => ⟨by rw [Lib.cell_of_heap (hd.at hb0 (fun e => e))]; rfl, by rw [Lib.cell_of_heap (hd.at hb0 (fun e => e))]; rfl, by rw [Lib.cell_of_heap (hd.at hb1 (fun e => e))]; rfl⟩
  clear hf HC hb0 hb1 hfw HB
  by_cases hc : ce = 0
  · subst hc
    by_cases hk0 : k ≤ 0
    · have HZy : Hid (Z = -1) := HZ2.out (by omega)
      clear HZ HZ2 HWK HTX HN HBX
      go_wp2
      go_ret
      exact ⟨by rw [HZy.out]; rfl, HF.out⟩
    · by_cases hkn : (n : Int) ≤ k
      · have HZy : Hid (Z = -1) := HZ2.out (by omega)
        clear HZ HZ2 HWK HTX HN HBX
        go_wp2
        go_ret
        exact ⟨by rw [HZy.out]; rfl, HF.out⟩
      · obtain ⟨i, rfl⟩ : ∃ i : Nat, k = (i : Int) := ⟨k.toNat, by omega⟩
        have hin : i < n := by omega
        have HZy : Hid (Z = wlF A E s (gT T i)) := HZ.out i rfl rfl (by omega) (by omega)
        have KW : Hid (∀ d : Nw X, Calls Try.prog 17 #[.agg #[.slice ao na ac, .slice eo ne ec], zV s, sV (gT T i)] d.w fun e w' => e = .returned (zV (wlF A E s (gT T i))) ∧ Fresh d.w w') := fun d => HWK.out rfl d.w (HF.out.trans d.f (fun _ _ e => e)) i hin
        have htx := HTX.out X HF.out
        rw [← HN.out] at htx
        obtain ⟨_, _, hcell⟩ := htx.cells
        obtain ⟨bb, off, hta, _, hlt, hcc⟩ := hcell (by rw [HN.out]; omega)
        subst hta
        have c0 := hcc i (by rw [HN.out]; omega)
        have cd : ∀ d : Nw X, d.w.cell? ⟨bb, off + i, none⟩ = some (sV (gT T i)) := fun d => (d.f.cell (p := ⟨bb, off + i, none⟩) hlt (fun e => e)).trans c0
        have u0 : ∀ d : Nw X, d.w.cell? ⟨w.heap.size, 0, none⟩ = some (.slice ao na ac) := fun d => (HBX.out d.w d.f).1
        have u1 : ∀ d : Nw X, d.w.cell? ⟨w.heap.size, 1, none⟩ = some (.slice eo ne ec) := fun d => (HBX.out d.w d.f).2.1
        have u2 : ∀ d : Nw X, d.w.cell? ⟨w.heap.size + 1, 0, none⟩ = some (.slice (some ⟨bb, off, none⟩) n tc) := fun d => (HBX.out d.w d.f).2.2
        have HFW : Hid (∀ d : Nw X, Fresh w d.w) := fun d => HF.out.trans d.f (fun _ _ e => e)
        have hin' : (i : Int) < (n : Int) := by omega
        have h0i : (0 : Int) ≤ (i : Int) := by omega
        clear HZ HZ2 HWK HTX HN HBX htx hcell hcc c0
        generalize gT T i = tx at *
        generalize wlF A E s tx = z at *
        go_upto_region 4 with fail
        haveI : Nonempty (Nw X) := nw_some X
        refine wp_region_new (by kernel_rfl) (by kernel_rfl) ?_
        repeat (go_big_quiet_step (with_reducible exact Calls.new_of (KW.out _)))
        refine wpQuiet_nil ?_
        intro _ hw'
        obtain ⟨dq, hw''⟩ := hw'
        subst hw''
        go_wp2
        go_ret
        exact ⟨by rw [HZy.out]; rfl, HFW.out dq⟩
  · have HZy : Hid (Z = -1) := HZ2.out (fun e => hc e.1)
    have hcc : (ce != 0) = true := bne_iff_ne.2 hc
    clear HZ HZ2 HWK HTX HN HBX hc
    go_wp2
    go_ret
    exact ⟨by rw [HZy.out]; rfl, HF.out⟩
end Go.Proofs.Ytdponkpgokncdaa
