/-
  The document's Alive.
-/
import Derived.Test.YtdponkpgokncdaaGuv
namespace Go.Proofs.Ytdponkpgokncdaa
open Go.RowKit Go.Lib Go.Maps

/-- What the document has found so far. -/
structure RaS (w wr : World) (v an en : Value) (n : Nat) (D : List Bool) : Prop where
  own : wr.ownsRow w.heap.size 4 1 v n (D.map Value.bool)
  bx : wr.heap[w.heap.size]? = some (.cells #[an, en] 28 (0, 0))
  fr : Fresh w wr
theorem RaS.fresh {w wr X : World} {v an en : Value} {n : Nat} {D : List Bool} (h : RaS w wr v an en n D) (hk : Fresh wr X) : RaS w X v an en n D := ⟨owns_kept h.own hk (fun _ _ e => e), hk.at h.bx (fun e => e), h.fr.trans hk (fun _ _ e => e)⟩
theorem RaS.set {w wr : World} {g c : Nat} {an en : Value} {n : Nat} {D : List Bool} (h : RaS w wr (.slice (some ⟨g, 0, none⟩) n c) an en n D) (s : Nat) : RaS w (wr.setCell ⟨g, s, none⟩ (.bool true)) (.slice (some ⟨g, 0, none⟩) n c) an en n (D.set s true) := by
  have hk : Kept (fun k => k = g) wr (wr.setCell ⟨g, s, none⟩ (.bool true)) := (Kept.refl (fun k => k = g) wr).setCell (p := ⟨g, s, none⟩) (fun _ => rfl) _
  have hge := own_ge3 h.own (q := g) rfl
  refine ⟨?_, hk.at h.bx (fun e => ownBlock_ne3 h.own h.bx (by decide) (by rw [e]; rfl)), h.fr.trans hk (fun i hi e => by have e' : i = g := e; omega)⟩
  rw [List.map_set]
  exact own_setB h.own
theorem RaS.cell {w wr : World} {g c : Nat} {an en : Value} {n : Nat} {D : List Bool} (h : RaS w wr (.slice (some ⟨g, 0, none⟩) n c) an en n D) {s : Nat} (hs : s < n) : wr.cell? ⟨g, s, none⟩ = some (.bool (D.getD s false)) ∧ wr.frozen? ⟨g, s, none⟩ = false := by
  have hl : D.length = n := by have := h.own.1; rwa [List.length_map, Nat.mul_one] at this
  refine ⟨?_, ?_⟩
  · rw [h.own.cellAt s (by omega), List.getElem?_map, List.getD_eq_getElem?_getD, List.getElem?_eq_getElem (by rw [hl]; exact hs)]
    rfl
  · rcases h.own.2 with ⟨e, _⟩ | ⟨g', cap', cur, hv, hb, hh, _⟩
    · cases e
    · injection hv with e1
      injection e1 with e1
      injection e1 with e1
      subst e1
      exact Lib.frozen_of_heap hh s
set_option maxHeartbeats 1000000 in
set_option maxRecDepth 100000 in
theorem ralive_any {p q : Nat → Prop} (A : List Bool) (E : List Ed) (an en : Value) (w : World) (hA : RbL p w an A) (hE : EdR q w en E) :
    Calls Try.prog 13 #[.agg #[an, en]] w fun e w' => ∃ v, e = .returned v ∧ w'.ownsRow w.heap.size 4 1 v A.length ((drL A E).map Value.bool) ∧ Fresh w w' := by
  have HEC : Hid (∀ X, Fresh w X → EdR q X en E) := fun X hX => hE.fresh hX
  have hk1 : Fresh w ((w.alloc (.cells #[an, en] 28)).alloc (.cells #[] 4)) := ((Kept.refl _ w).alloc _).alloc _
  have hs1 : (w.alloc (.cells #[an, en] 28)).heap.size = w.heap.size + 1 := by rw [World.size_alloc]
  have ho := own_emptyB (w.alloc (.cells #[an, en] 28)) w.heap.size (by omega) 4
  obtain ⟨tv, W1, happ, htx, hgr⟩ := twinB 22 _ w.heap.size _ ho hk1.size an A p (hA.fresh hk1)
  rw [hs1] at happ hgr
  have hfr1 : Fresh w W1 := hk1.grown hgr (fun k hk e => by simp [Value.ownBlock] at e; omega)
  have hbx1 : W1.heap[w.heap.size]? = some (.cells #[an, en] 28 (0, 0)) := by
    rw [hgr.block _ (by rw [World.size_alloc, hs1]; omega) (by simp [Value.ownBlock]), Below.heap_alloc _ _ _ (by omega)]
    exact heap_alloc_new w _
  have HR0 : Hid (RaS w W1 tv an en A.length A) := ⟨htx, hbx1, hfr1⟩
  obtain ⟨ta, tc, rfl⟩ := ownsRow_shape htx
  have HTO : Hid (0 < A.length → ∃ g, ta = some ⟨g, 0, none⟩) := fun h0 => by
    rcases htx.2 with ⟨_, e⟩ | ⟨g', cap', cur, hv, _⟩
    · omega
    · injection hv with e1
      exact ⟨g', e1⟩
  obtain ⟨ao, ac, rfl⟩ := hA.shape
  obtain ⟨eo, ec, rfl⟩ := hE.shape
  have HNB : Hid (A.length ≤ 140737488351232) := hA.len
  have HKB : Hid (E.length * 24 ≤ 140737488351232) := by obtain ⟨_, _, _, _, _, h, _⟩ := hE; exact h
  clear hA hE hk1 hs1 ho htx hgr hfr1 hbx1
  obtain ⟨n, hn⟩ : ∃ n, A.length = n := ⟨_, rfl⟩
  obtain ⟨k, hk⟩ : ∃ k, E.length = k := ⟨_, rfl⟩
  have HZ : Hid (drN n E A n = drL A E) := by show _ = _; unfold drL; rw [hn]
  have HNX : Hid (∀ i, drE n E (drN n E A i) k = drN n E A (i + 1)) := fun i => by rw [← hk]; rfl
  have HDL : Hid (∀ i, (drN n E A i).length = n) := fun i => by rw [drN_len]; exact hn
  rw [hn] at HR0 HTO HNB happ
  rw [hk] at HKB HR0 happ HEC
  rw [hn, hk]
  clear hn hk
  have hn9 : n ≤ 140737488351232 := HNB.out
  have hk9 : k ≤ 5864062014806 := by have := HKB.out; omega
  generalize drL A E = Z at *
  have S1 : Hid (∀ (X : World) (s : Int), Calls Try.prog 31 #[.agg #[.slice ao n ac, .slice eo k ec], zV s] X fun e w' => e = .returned (.bool (decide (0 ≤ s) && decide (s < (n : Int)))) ∧ w' = X.alloc (.cells #[.slice ao n ac, .slice eo k ec] 28)) := fun X s => rstate_any _ _ _ _ _ _ s X
  go_enter Try.func13, Try.ntmps13
  go_wp2_with (at_builtin; refine Lib.wpList_append_run _ rfl _ _ _ _ rfl _ _ rfl rfl _ _ happ ?_)
  clear happ
  go_loopw [4] (fun iv wr => ∃ i : Nat, i ≤ n ∧ iv = zV i ∧ Hid (RaS w wr (.slice ta n tc) (.slice ao n ac) (.slice eo k ec) n (drN n E A i))) (fun iv _ => n - (RowKit.intOf iv).toNat)
  case atStart => exact ⟨0, Nat.zero_le _, rfl, HR0.out⟩
  case round =>
    obtain ⟨i, hi, rfl, HR⟩ := hrel
    clear HR0
    have x0 : wr.cell? ⟨w.heap.size, 0, none⟩ = some (.slice ao n ac) := by rw [Lib.cell_of_heap HR.out.bx]; rfl
    by_cases hlt : i < n
    · have hlt' : (i : Int) < (n : Int) := by omega
      obtain ⟨g, rfl⟩ := HTO.out (by omega)
      go_wp2
      clear x0
      go_loopw [5] (fun jv wx => ∃ j : Nat, j ≤ k ∧ jv = zV j ∧ Hid (RaS w wx (.slice (some ⟨g, 0, none⟩) n tc) (.slice ao n ac) (.slice eo k ec) n (drE n E (drN n E A i) j))) (fun jv _ => k - (RowKit.intOf jv).toNat)
      case atStart => exact ⟨0, Nat.zero_le _, rfl, HR.out⟩
      case round =>
        clear HR
        obtain ⟨j, hj, rfl, HR⟩ := hrel
        have x0 : wr.cell? ⟨w.heap.size, 0, none⟩ = some (.slice ao n ac) := by rw [Lib.cell_of_heap HR.out.bx]; rfl
        have x1 : wr.cell? ⟨w.heap.size, 1, none⟩ = some (.slice eo k ec) := by rw [Lib.cell_of_heap HR.out.bx]; rfl
        by_cases hlj : j < k
        · have hlj' : (j : Int) < (k : Int) := by omega
          obtain ⟨bb, off, rfl, _, _, hcells⟩ := (HEC.out wr HR.out.fr).cells (by omega)
          obtain ⟨c0, c1, c2, c3⟩ := hcells j hlj
          have HDE : Hid (drE n E (drN n E A i) (j + 1) = drS n (drE n E (drN n E A i) j) (gE E j)) := rfl
          have HDN : Hid ((drE n E (drN n E A i) j).length = n) := by show _ = _; rw [drE_len]; exact HDL.out i
          clear hcells
          generalize h1D : drE n E (drN n E A i) (j + 1) = D1 at *
          have HDD : Hid (drE n E (drN n E A i) (j + 1) = D1) := h1D
          clear h1D
          generalize drE n E (drN n E A i) j = D at *
          generalize gE E j = e at *
          have HRb : Hid (RaS w (wr.alloc (.cells #[zV e.f, .int .u8 (e.lo : Int), .int .u8 (e.hi : Int), zV e.t] 70)) (.slice (some ⟨g, 0, none⟩) n tc) (.slice ao n ac) (.slice (some ⟨bb, off, none⟩) k ec) n D) := HR.out.fresh ((Kept.refl _ wr).alloc _)
          have hwb := heap_alloc_new wr (.cells #[zV e.f, .int .u8 (e.lo : Int), .int .u8 (e.hi : Int), zV e.t] 70)
          have HWB := show Hid _ from hwb
          clear hwb HR
          go_upto_region 9 with fail
          clear c0 c1 c2 c3 x0 x1
          generalize wr.alloc (.cells #[zV e.f, .int .u8 (e.lo : Int), .int .u8 (e.hi : Int), zV e.t] 70) = X0 at *
          generalize wr.heap.size = eb at *
          have HEB : Hid (∀ X, Fresh X0 X → (X.cell? ⟨eb, 0, none⟩ = some (zV e.f) ∧ X.cell? ⟨eb, 3, none⟩ = some (zV e.t)) ∧ RaS w X (.slice (some ⟨g, 0, none⟩) n tc) (.slice ao n ac) (.slice (some ⟨bb, off, none⟩) k ec) n D ∧ X.cell? ⟨w.heap.size, 0, none⟩ = some (.slice ao n ac) ∧ X.cell? ⟨w.heap.size, 1, none⟩ = some (.slice (some ⟨bb, off, none⟩) k ec)) := fun X hX => by
            have h1 := hX.at HWB.out (fun e => e)
            have h2 := HRb.out.fresh hX
            exact ⟨⟨by rw [Lib.cell_of_heap h1]; rfl, by rw [Lib.cell_of_heap h1]; rfl⟩, h2, by rw [Lib.cell_of_heap h2.bx]; rfl, by rw [Lib.cell_of_heap h2.bx]; rfl⟩
          obtain ⟨⟨e0, e3⟩, _, g0, g1⟩ := HEB.out X0 (Kept.refl _ _)
          have C0 := show Hid _ from S1.out X0 e.f
          have C1 := show Hid _ from fun X => S1.out X e.t
          have HTN : Hid ((decide (0 ≤ e.t) && decide (e.t < (n : Int))) = true → 0 ≤ e.t ∧ e.t < (n : Int)) := fun h => by simpa using h
          have HFN : Hid ((decide (0 ≤ e.f) && decide (e.f < (n : Int))) = true → 0 ≤ e.f ∧ e.f < (n : Int)) := fun h => by simpa using h
          have HDE2 : Hid (D1 = if (decide (0 ≤ e.f) && decide (e.f < (n : Int))) && (decide (0 ≤ e.t) && decide (e.t < (n : Int))) && D.getD e.t.toNat false then D.set e.f.toNat true else D) := HDE.out
          clear HDE
          generalize (decide (0 ≤ e.f) && decide (e.f < (n : Int))) = s1 at *
          generalize (decide (0 ≤ e.t) && decide (e.t < (n : Int))) = s2 at *
          cases s1 with
          | false =>
            have HD : Hid (D1 = D) := HDE2.out
            go_wp2_with fail
            refine Calls.mono C0.out ?_
            rintro r X ⟨rfl, rfl⟩
            have hX : Fresh X0 (X0.alloc (.cells #[.slice ao n ac, .slice (some ⟨bb, off, none⟩) k ec] 28)) := (Kept.refl _ _).alloc _
            generalize X0.alloc (.cells #[.slice ao n ac, .slice (some ⟨bb, off, none⟩) k ec] 28) = X at *
            have HRn : Hid (RaS w X (.slice (some ⟨g, 0, none⟩) n tc) (.slice ao n ac) (.slice (some ⟨bb, off, none⟩) k ec) n D1) := by
              rw [show D1 = D from HD.out]
              exact (HEB.out X hX).2.1
            clear hX C0 C1 HTN HFN HDE2 HD HEB HRb HWB e0 e3 g0 g1
            go_wp2
            go_roundw
            case rel => exact ⟨j + 1, hlj, by go_num, by rw [HDD.out]; exact HRn⟩
            case measure => simp [RowKit.intOf]; omega
          | true =>
            go_wp2_with fail
            refine Calls.mono C0.out ?_
            rintro r X ⟨rfl, rfl⟩
            have hX : Fresh X0 (X0.alloc (.cells #[.slice ao n ac, .slice (some ⟨bb, off, none⟩) k ec] 28)) := (Kept.refl _ _).alloc _
            generalize X0.alloc (.cells #[.slice ao n ac, .slice (some ⟨bb, off, none⟩) k ec] 28) = X at *
            obtain ⟨⟨e0, e3⟩, _, g0, g1⟩ := HEB.out X hX
            have C1x := show Hid _ from C1.out X
            go_wp2_with fail
            refine Calls.mono C1x.out ?_
            rintro r X2 ⟨rfl, rfl⟩
            have hX2 : Fresh X0 (X.alloc (.cells #[.slice ao n ac, .slice (some ⟨bb, off, none⟩) k ec] 28)) := hX.alloc _
            generalize X.alloc (.cells #[.slice ao n ac, .slice (some ⟨bb, off, none⟩) k ec] 28) = X2 at *
            obtain ⟨⟨e0, e3⟩, hra, g0, g1⟩ := HEB.out X2 hX2
            have HRA : Hid (RaS w X2 (.slice (some ⟨g, 0, none⟩) n tc) (.slice ao n ac) (.slice (some ⟨bb, off, none⟩) k ec) n D) := hra
            clear hX hX2 C0 C1 C1x hra HEB HRb HWB g0 g1
            cases s2 with
            | false =>
              have HD : Hid (D1 = D) := HDE2.out
              have HRn : Hid (RaS w X2 (.slice (some ⟨g, 0, none⟩) n tc) (.slice ao n ac) (.slice (some ⟨bb, off, none⟩) k ec) n D1) := by
                rw [show D1 = D from HD.out]
                exact HRA.out
              clear HTN HFN HDE2 HD e0 e3
              go_wp2
              go_roundw
              case rel => exact ⟨j + 1, hlj, by go_num, by rw [HDD.out]; exact HRn⟩
              case measure => simp [RowKit.intOf]; omega
            | true =>
              obtain ⟨t0, t1⟩ : 0 ≤ e.t ∧ e.t < (n : Int) := by first | exact HTN.out rfl | exact HTN.out trivial
              obtain ⟨f0, f1⟩ : 0 ≤ e.f ∧ e.f < (n : Int) := by first | exact HFN.out rfl | exact HFN.out trivial
              obtain ⟨t, ht⟩ : ∃ t : Nat, e.t = (t : Int) := ⟨e.t.toNat, by omega⟩
              obtain ⟨f, hf⟩ : ∃ f : Nat, e.f = (f : Int) := ⟨e.f.toNat, by omega⟩
              rw [ht] at e3 t1 HDE2
              rw [hf] at e0 f1 HDE2
              rw [Int.toNat_natCast, Int.toNat_natCast] at HDE2
              clear HTN HFN t0 f0 ht hf
              have a1 := (HRA.out.cell (s := t) (by omega)).1
              obtain ⟨b1, b2⟩ := HRA.out.cell (s := f) (by omega)
              cases hD : D.getD t false with
              | false =>
                rw [hD] at a1
                have HD : Hid (D1 = D) := by
                  have := HDE2.out
                  rw [hD] at this
                  exact this
                have HRn : Hid (RaS w X2 (.slice (some ⟨g, 0, none⟩) n tc) (.slice ao n ac) (.slice (some ⟨bb, off, none⟩) k ec) n D1) := by
                  rw [show D1 = D from HD.out]
                  exact HRA.out
                clear HDE2 HD hD b1 b2 HRA
                go_wp2
                go_roundw
                case rel => exact ⟨j + 1, hlj, by go_num, by rw [HDD.out]; exact HRn⟩
                case measure => simp [RowKit.intOf]; omega
              | true =>
                rw [hD] at a1
                have HD : Hid (D1 = D.set f true) := by
                  have := HDE2.out
                  rw [hD] at this
                  exact this
                have HRn : Hid (RaS w (X2.setCell ⟨g, f, none⟩ (.bool true)) (.slice (some ⟨g, 0, none⟩) n tc) (.slice ao n ac) (.slice (some ⟨bb, off, none⟩) k ec) n D1) := by
                  rw [show D1 = D.set f true from HD.out]
                  exact HRA.out.set f
                clear HDE2 HD hD HRA
                generalize D.getD f false = y at *
                go_wp2
                go_roundw
                case rel => exact ⟨j + 1, hlj, by go_num, by rw [HDD.out]; exact HRn⟩
                case measure => simp [RowKit.intOf]; omega
        · obtain rfl : j = k := by omega
          have HR2 : Hid (RaS w wr (.slice (some ⟨g, 0, none⟩) n tc) (.slice ao n ac) (.slice eo j ec) n (drN n E A (i + 1))) := by
            have := HR.out
            rw [HNX.out] at this
            exact this
          have hlj' : ¬ ((j : Int) < (j : Int)) := by omega
          clear HR
          go_wp2
          go_roundw
          case rel => exact ⟨i + 1, hlt, by go_num, HR2.out⟩
          case measure => simp [RowKit.intOf]; omega
    · obtain rfl : i = n := by omega
      have hlt' : ¬ ((i : Int) < (i : Int)) := by omega
      have HO : Hid (wr.ownsRow w.heap.size 4 1 (.slice ta i tc) i (Z.map Value.bool) ∧ Fresh w wr) := by
        have := HR.out.own
        rw [HZ.out] at this
        exact ⟨this, HR.out.fr⟩
      clear HR
      go_wp2
      go_ret
      exact ⟨_, rfl, HO.out.1, HO.out.2⟩
end Go.Proofs.Ytdponkpgokncdaa
