/-
  machineOf: the walk.
-/
import Derived.Test.YtdponkpgokncdaaGuo
namespace Go.Proofs.Ytdponkpgokncdaa
open Go.RowKit Go.Lib Go.Maps

/-- What machineOf answers. -/
def MoQ (A : List Bool) (E : List Ed) (w : World) (e : Ending) (w' : World) : Prop :=
  Fresh w w' ∧ ((chE A E ≠ 0 ∧ e = .returned (.tuple #[.pointer none, zV (chP A E), zV (chE A E)])) ∨ (chE A E = 0 ∧ ∃ b av sv, e = .returned (.tuple #[.pointer (some ⟨b, 0, none⟩), zV 0, zV 0]) ∧ MaAt w.heap.size w' b av sv (nA A) (nA A).length (mF A E)))
/-- A machine on its way. -/
structure MoS (w wr : World) (b : Nat) (av sv : Value) (A : List Bool) (n : Nat) (f : Nat → Nat → Int) (acv edv : Value) : Prop where
  ma : MaAt (w.heap.size + 1) wr b av sv A n f
  kp : Kept (fun q => w.heap.size ≤ q) w wr
  bx : wr.heap[w.heap.size]? = some (.cells #[acv, edv] 25 (0, 0))
theorem MoS.sz {w wr : World} {b : Nat} {av sv : Value} {A : List Bool} {n : Nat} {f : Nat → Nat → Int} {acv edv : Value} (h : MoS w wr b av sv A n f acv edv) : w.heap.size + 1 ≤ wr.heap.size := lt_of_heap h.bx
theorem MoS.next {w wr X : World} {b : Nat} {av sv av' sv' : Value} {A A' : List Bool} {n n' : Nat} {f f' : Nat → Nat → Int} {acv edv : Value} (h : MoS w wr b av sv A n f acv edv) (hm : MaAt (w.heap.size + 1) X b av' sv' A' n' f') (hk : Kept (fun q => w.heap.size + 1 ≤ q) wr X) : MoS w X b av' sv' A' n' f' acv edv :=
  ⟨hm, h.kp.trans hk (fun i _ e => by have e' : w.heap.size + 1 ≤ i := e; show w.heap.size ≤ i; omega), hk.at h.bx (fun e => by have e' : w.heap.size + 1 ≤ w.heap.size := e; omega)⟩
theorem MoS.fresh {w wr X : World} {b : Nat} {av sv : Value} {A : List Bool} {n : Nat} {f : Nat → Nat → Int} {acv edv : Value} (h : MoS w wr b av sv A n f acv edv) (hk : Fresh wr X) : MoS w X b av sv A n f acv edv := h.next (h.ma.fresh hk) (hk.mono (fun _ _ (e : False) => e.elim))
theorem MoS.low {w wr : World} {b : Nat} {av sv : Value} {A : List Bool} {n : Nat} {f : Nat → Nat → Int} {acv edv : Value} (h : MoS w wr b av sv A n f acv edv) : Fresh w wr := Kept.trans (S := fun _ => False) (Kept.refl _ w) h.kp (fun i hi e => by have e' : w.heap.size ≤ i := e; omega)
set_option maxHeartbeats 500000 in
set_option maxRecDepth 100000 in
theorem machineOf_any {p : Nat → Prop} (A : List Bool) (E : List Ed) (acv edv : Value) (w : World) (hA : RbL p w acv A) (hE : EdR p w edv E) :
    Calls Try.prog 28 #[.agg #[acv, edv]] w fun e w' => MoQ A E w e w' := by
  have HRA : Hid (∀ X, Kept (fun q => w.heap.size ≤ q) w X → RbL p X acv A) := fun X hk => hA.up hk
  have HRE : Hid (∀ X, Kept (fun q => w.heap.size ≤ q) w X → EdR p X edv E) := fun X hk => hE.up hk
  obtain ⟨ao, ac, rfl⟩ := hA.shape
  obtain ⟨eo, ec, rfl⟩ := hE.shape
  have HF1 : Hid (Fresh w (w.alloc (.cells #[.slice ao A.length ac, .slice eo E.length ec] 25))) := (Kept.refl _ w).alloc _
  have hbx := heap_alloc_new w (.cells #[.slice ao A.length ac, .slice eo E.length ec] 25)
  have HQ : Hid (∀ e w', (Fresh w w' ∧ ((chE A E ≠ 0 ∧ e = .returned (.tuple #[.pointer none, zV (chP A E), zV (chE A E)])) ∨ (chE A E = 0 ∧ ∃ b av sv, e = .returned (.tuple #[.pointer (some ⟨b, 0, none⟩), zV 0, zV 0]) ∧ MaAt w.heap.size w' b av sv (nA A) (nA A).length (mF A E)))) → MoQ A E w e w') := fun _ _ h => h
  clear hA hE
  obtain ⟨n, hn⟩ : ∃ n, n = A.length := ⟨_, rfl⟩
  have HN : Hid (n = A.length) := hn
  obtain ⟨k, hk⟩ : ∃ k, k = E.length := ⟨_, rfl⟩
  have HK : Hid (k = E.length) := hk
  rw [← hn, ← hk] at HF1 hbx
  rw [← hn] at HRA
  rw [← hk] at HRE
  rw [← hn, ← hk]
  clear hn hk
  generalize hW1 : w.alloc (.cells #[.slice ao n ac, .slice eo k ec] 25) = W1 at *
  have x0 : W1.cell? ⟨w.heap.size, 0, none⟩ = some (.slice ao n ac) := by rw [Lib.cell_of_heap hbx]; rfl
  have x1 : W1.cell? ⟨w.heap.size, 1, none⟩ = some (.slice eo k ec) := by rw [Lib.cell_of_heap hbx]; rfl
  have HBX := show Hid _ from hbx
  have hsz1 : w.heap.size < W1.heap.size := lt_of_heap hbx
  clear hbx
  go_enter Try.func28, Try.ntmps28
  by_cases h64 : 64 < n
  · have h64' : (64 : Int) < (n : Int) := by omega
    have HC := show Hid _ from chE_many (A := A) (E := E) (by rw [← HN.out]; exact h64)
    clear h64
    go_wp2
    go_ret3
    exact HQ.out _ _ ⟨HF1.out, .inl ⟨by rw [HC.out.1]; omega, by rw [HC.out.1, HC.out.2]; rfl⟩⟩
  · have h64' : ¬ (64 : Int) < (n : Int) := by omega
    by_cases h1k : 1024 < k
    · have h1k' : (1024 : Int) < (k : Int) := by omega
      have HC := show Hid _ from chE_edges (A := A) (E := E) (by rw [← HN.out]; exact h64) (by rw [← HK.out]; exact h1k)
      clear h64 h1k
      go_wp2
      go_ret3
      exact HQ.out _ _ ⟨HF1.out, .inl ⟨by rw [HC.out.1]; omega, by rw [HC.out.1, HC.out.2]; rfl⟩⟩
    · have h1k' : ¬ (1024 : Int) < (k : Int) := by omega
      have HM0 : Hid (MoS w (W1.alloc (.cells #[.slice none 0 0, .slice none 0 0] 90)) W1.heap.size (.slice none 0 0) (.slice none 0 0) [] 0 (fun _ _ => -1) (.slice ao n ac) (.slice eo k ec)) :=
        ⟨ma_new _ _ hsz1, (HF1.out.alloc _).mono (fun _ _ (e : False) => e.elim), ((Kept.refl (fun _ => False) W1).alloc _).at HBX.out (fun e => e)⟩
      have hn64 : n ≤ 64 := by omega
      have hk1k : k ≤ 1024 := by omega
      clear h64 h1k HF1
      go_wp2
      clear x0 x1 HBX
      generalize hb : W1.heap.size = b at *
      clear hb
      generalize W1.alloc (.cells #[.slice none 0 0, .slice none 0 0] 90) = W2 at *
      go_loopw [23] (fun iv wr => ∃ (i : Nat) (av sv : Value), i ≤ n ∧ iv = zV i ∧ Hid (MoS w wr b av sv (A.take i) i (fun _ _ => -1) (.slice ao n ac) (.slice eo k ec))) (fun iv _ => n - (RowKit.intOf iv).toNat)
      case atStart => exact ⟨0, _, _, Nat.zero_le _, rfl, HM0.out⟩
      case round =>
        obtain ⟨i, av, sv, hi, rfl, HMi⟩ := hrel
        clear HM0
        by_cases hlt : i < n
        · have hlt' : (i : Int) < (n : Int) := by omega
          obtain ⟨bb, off, rfl, _, hbb, hcells⟩ := (HRA.out wr HMi.out.kp).cells (by omega)
          have c0 := hcells i hlt
          have HC := show Hid _ from add_any HMi.out.ma HMi.out.sz (by omega) (fun _ _ => rfl) (A.getD i false)
          have HAT : Hid (A.take i ++ [A.getD i false] = A.take (i + 1)) := (take_snocB (by rw [← HN.out]; exact hlt)).symm
          rw [HAT.out] at HC
          clear hcells hbb
          generalize A.getD i false = a at *
          go_wp2_with fail
          refine Calls.mono HC.out ?_
          rintro e X ⟨rfl, av', sv', hm', hk'⟩
          have HMn : Hid (MoS w X b av' sv' (A.take (i + 1)) (i + 1) (fun _ _ => -1) (.slice (some ⟨bb, off, none⟩) n ac) (.slice eo k ec)) := HMi.out.next hm' hk'
          clear hm' hk' HC c0 HMi
          go_wp2
          go_roundw
          case rel => exact ⟨i + 1, av', sv', hlt, by go_num, HMn.out⟩
          case measure => simp [RowKit.intOf]; omega
        · obtain rfl : i = n := by omega
          have hlt' : ¬ ((i : Int) < (i : Int)) := by omega
          have hAt : A.take i = A := List.take_of_length_le (by rw [← HN.out]; exact Nat.le_refl _)
          have HM1 : Hid (MoS w wr b av sv A i (stF E 0) (.slice ao i ac) (.slice eo k ec)) := by
            have := HMi.out
            rw [hAt] at this
            exact this
          have x1 : wr.cell? ⟨w.heap.size, 1, none⟩ = some (.slice eo k ec) := by rw [Lib.cell_of_heap HMi.out.bx]; rfl
          clear hAt HMi
          go_wp2
          clear x1
          go_loopw [34] (fun iv wx => ∃ j : Nat, j ≤ k ∧ iv = zV j ∧ Hid (MoS w wx b av sv A i (stF E j) (.slice ao i ac) (.slice eo k ec)) ∧ Hid (bdF i E j = none)) (fun iv _ => k - (RowKit.intOf iv).toNat)
          case atStart => exact ⟨0, Nat.zero_le _, rfl, HM1.out, rfl⟩
          case round =>
            obtain ⟨j, hj, rfl, HMj, HBj⟩ := hrel
            clear HM1
            by_cases hlj : j < k
            · have hlj' : (j : Int) < (k : Int) := by omega
              have hre := HRE.out wr HMj.out.kp
              have hjE : j < E.length := by rw [← HK.out]; exact hlj
              have hok := hre.ok hjE
              obtain ⟨bb, off, rfl, _, hbb, hcells⟩ := hre.cells (by omega)
              obtain ⟨c0, c1, c2, c3⟩ := hcells j hlj
              have hFa : Fresh wr (wr.alloc (.cells #[zV (gE E j).f, .int .u8 ((gE E j).lo : Int), .int .u8 ((gE E j).hi : Int), zV (gE E j).t] 69)) := (Kept.refl _ wr).alloc _
              have HMa : Hid (MoS w (wr.alloc (.cells #[zV (gE E j).f, .int .u8 ((gE E j).lo : Int), .int .u8 ((gE E j).hi : Int), zV (gE E j).t] 69)) b av sv A i (stF E j) (.slice ao i ac) (.slice (some ⟨bb, off, none⟩) k ec)) := HMj.out.fresh hFa
              have HC := show Hid _ from lay_any HMa.out.ma HMa.out.sz (gE E j) hok
              have HST : Hid (∀ X, MaAt (w.heap.size + 1) X b av sv A i (lyF (stF E j) (gE E j)) → MaAt (w.heap.size + 1) X b av sv A i (stF E (j + 1))) := fun X h => h
              have HOK : Hid (lyB (stF E j) i (gE E j) = okB i E j) := rfl
              clear hre hcells hbb hok hFa HMj
              generalize hye : gE E j = ye at *
              clear hye
              cases hO : okB i E j with
              | false =>
                have HBD := show Hid _ from chE_bad (A := A) (E := E) (by rw [← HN.out]; omega) (by rw [← HK.out]; omega) (bdF_le (m := E.length) (by rw [← HN.out]; exact bdF_bad HBj.out hO) (by omega))
                rw [HOK.out, hO] at HC
                clear hO HOK HST HBj
                go_wp2_with fail
                refine Calls.mono HC.out ?_
                rintro e X ⟨rfl, hkX, _⟩
                have HFx : Hid (Fresh w X) := Kept.trans (S := fun _ => False) HMa.out.low hkX (fun q hq e => by have e' : w.heap.size + 1 ≤ q := e; omega)
                clear hkX HMa HC
                go_wp2
                go_ret3
                exact HQ.out _ _ ⟨HFx.out, .inl ⟨by rw [HBD.out.1]; omega, by rw [HBD.out.1, HBD.out.2]; rfl⟩⟩
              | true =>
                have HB1 : Hid (bdF i E (j + 1) = none) := bdF_good HBj.out hO
                rw [HOK.out, hO] at HC
                clear hO HOK HBj
                go_wp2_with fail
                refine Calls.mono HC.out ?_
                rintro e X ⟨rfl, hkX, hmX⟩
                have HMx : Hid (MoS w X b av sv A i (stF E (j + 1)) (.slice ao i ac) (.slice (some ⟨bb, off, none⟩) k ec)) := HMa.out.next (HST.out X (hmX trivial)) hkX
                clear hkX hmX HMa HC HST
                go_wp2
                go_roundw
                case rel => exact ⟨j + 1, hlj, by go_num, HMx.out, HB1.out⟩
                case measure => simp [RowKit.intOf]; omega
            · obtain rfl : j = k := by omega
              have hlj' : ¬ ((j : Int) < (j : Int)) := by omega
              have x0 : wr.cell? ⟨w.heap.size, 0, none⟩ = some (.slice ao i ac) := by rw [Lib.cell_of_heap HMj.out.bx]; rfl
              have HLIV := show Hid _ from chE_live (A := A) (E := E) (by rw [← HN.out]; omega) (by rw [← HK.out]; omega) (by rw [← HN.out, ← HK.out]; exact HBj.out)
              rcases Nat.eq_zero_or_pos i with hz | hz
              · subst hz
                have hE0 : j = 0 := by rw [HK.out]; exact bdF_empty (by rw [← HK.out]; exact HBj.out)
                subst hE0
                have HMF := show Hid _ from mF_empty (A := A) (E := E) HN.out.symm
                have hA0 : A = [] := List.eq_nil_of_length_eq_zero HN.out.symm
                have HM5 : Hid (MoS w wr b av sv [] 0 (fun _ _ => -1) (.slice ao 0 ac) (.slice eo 0 ec)) := by
                  have := HMj.out
                  rw [hA0] at this
                  exact this
                have HC0 := show Hid _ from add_any HM5.out.ma HM5.out.sz (by omega) (fun _ _ => rfl) true
                clear HMj HBj HRA HRE hA0
                go_wp2_with fail
                refine Calls.mono HC0.out ?_
                rintro e X ⟨rfl, av1, sv1, hm', hk'⟩
                have HM6 : Hid (MoS w X b av1 sv1 [true] 1 (fun _ _ => -1) (.slice ao 0 ac) (.slice eo 0 ec)) := HM5.out.next hm' hk'
                clear hm' hk' HC0 HM5 x0
                have HC1 : Hid (Calls Try.prog 43 #[.pointer (some ⟨b, 0, none⟩), .agg #[.int .i64 0, .int .u8 0, .int .u8 255, .int .i64 0]] X fun r w' => r = .returned (.bool (lyB (fun _ _ => -1) 1 e0)) ∧ Kept (fun q => w.heap.size + 1 ≤ q) X w' ∧ (lyB (fun _ _ => -1) 1 e0 = true → MaAt (w.heap.size + 1) w' b av1 sv1 [true] 1 (lyF (fun _ _ => -1) e0))) :=
                  lay_any HM6.out.ma HM6.out.sz e0 ⟨⟨by decide, by decide⟩, by decide, by decide, ⟨by decide, by decide⟩⟩
                rw [← HMF.out.2, ly0] at HC1
                go_wp2_with fail
                refine Calls.mono HC1.out ?_
                rintro e X2 ⟨rfl, hk2, hm2⟩
                have HMz : Hid (MoS w X2 b av1 sv1 [true] 1 (mF A E) (.slice ao 0 ac) (.slice eo 0 ec)) := HM6.out.next (hm2 trivial) hk2
                clear hk2 hm2 HC1 HM6
                have HC := show Hid _ from alive_any HMz.out.ma (Nat.zero_lt_one)
                have HLA := HLIV.out
                rw [HMF.out.1] at HLA
                have HLN : Hid ((lvL (mF A E) [true]).length = 1) := by show _ = _; rw [lvL_len]; rfl
                go_wp2_with fail
                refine Calls.mono HC.out ?_
                rintro e X ⟨g, c, rfl, hown, hfx⟩
                have c0 : X.cell? ⟨g, 0, none⟩ = some (.bool ((lvL (mF A E) [true]).getD 0 false)) := by
                  rw [hown.cellAt 0 (by omega), List.getElem?_map, List.getD_eq_getElem?_getD, List.getElem?_eq_getElem (by rw [HLN.out]; exact Nat.zero_lt_one)]
                  rfl
                have HMx := show Hid _ from HMz.out.fresh hfx
                clear hown hfx HC HMz
                cases hL : (lvL (mF A E) [true]).getD 0 false with
                | true =>
                  rw [hL] at c0
                  have HZ : Hid (chE A E = 0) := by
                    show _ = _
                    rw [HLA.1, hL]
                    rfl
                  clear hL HLA
                  go_wp2
                  go_ret3
                  refine HQ.out _ _ ⟨HMx.out.low, .inr ⟨HZ.out, b, av1, sv1, rfl, ?_⟩⟩
                  have := HMx.out.ma.down (B' := w.heap.size) (by omega)
                  rw [HMF.out.1]
                  exact this
                | false =>
                  rw [hL] at c0
                  have HZ : Hid (chE A E = 152 ∧ chP A E = 0) := by
                    refine ⟨?_, HLA.2⟩
                    rw [HLA.1, hL]
                    rfl
                  clear hL HLA
                  go_wp2
                  go_ret3
                  exact HQ.out _ _ ⟨HMx.out.low, .inl ⟨by rw [HZ.out.1]; omega, by rw [HZ.out.1, HZ.out.2]; rfl⟩⟩
              · have hz' : ((i : Int) == 0) = false := beq_eq_false_iff_ne.2 (by omega)
                have HMF := show Hid _ from mF_some (A := A) (E := E) (by rw [← HN.out]; exact hz)
                have HMj2 : Hid (MoS w wr b av sv A i (mF A E) (.slice ao i ac) (.slice eo j ec)) := by
                  have := HMj.out
                  rw [HK.out, ← HMF.out.2, ← HK.out] at this
                  exact this
                have HC := show Hid _ from alive_any HMj2.out.ma hz
                have HLA := HLIV.out
                rw [HMF.out.1] at HLA
                have HLN : Hid ((lvL (mF A E) A).length = i) := by show _ = _; rw [lvL_len, HN.out]
                clear HMj HBj HRA HRE
                go_wp2_with fail
                refine Calls.mono HC.out ?_
                rintro e X ⟨g, c, rfl, hown, hfx⟩
                have c0 : X.cell? ⟨g, 0, none⟩ = some (.bool ((lvL (mF A E) A).getD 0 false)) := by
                  rw [hown.cellAt 0 (by omega), List.getElem?_map, List.getD_eq_getElem?_getD, List.getElem?_eq_getElem (by rw [HLN.out]; exact hz)]
                  rfl
                have HMx := show Hid _ from HMj2.out.fresh hfx
                clear hown hfx HC HMj2 x0
                cases hL : (lvL (mF A E) A).getD 0 false with
                | true =>
                  rw [hL] at c0
                  have HZ : Hid (chE A E = 0) := by
                    show _ = _
                    rw [HLA.1, hL]
                    rfl
                  clear hL HLA
                  go_wp2
                  go_ret3
                  refine HQ.out _ _ ⟨HMx.out.low, .inr ⟨HZ.out, b, av, sv, rfl, ?_⟩⟩
                  have := HMx.out.ma.down (B' := w.heap.size) (by omega)
                  rw [HMF.out.1, ← HN.out]
                  exact this
                | false =>
                  rw [hL] at c0
                  have HZ : Hid (chE A E = 152 ∧ chP A E = 0) := by
                    refine ⟨?_, HLA.2⟩
                    rw [HLA.1, hL]
                    rfl
                  clear hL HLA
                  go_wp2
                  go_ret3
                  exact HQ.out _ _ ⟨HMx.out.low, .inl ⟨by rw [HZ.out.1]; omega, by rw [HZ.out.1, HZ.out.2]; rfl⟩⟩
end Go.Proofs.Ytdponkpgokncdaa
