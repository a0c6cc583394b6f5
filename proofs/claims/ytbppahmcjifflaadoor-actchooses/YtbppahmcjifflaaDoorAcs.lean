/-
  The weights of the chosen, the package's.
-/
import Derived.Test.YtbppahmcjifflaaDoorAcr
import Derived.Test.YtbppahmcjifflaaDoorAcW
namespace Go.Proofs.YtbppahmcjifflaaDoor
open Go.RowKit Go.Lib Go.Maps

theorem mkL_set {n j : Nat} {f : Nat → Int} {y : Int} : (mkL n f).set j y = mkL n (fun i => if i = j then y else f i) := by
  refine List.ext_getElem (by simp [mkL]) (fun i h1 h2 => ?_)
  rw [List.getElem_set]
  simp only [mkL, List.getElem_map, List.getElem_range]
  by_cases e : j = i
  · subst e; simp
  · rw [if_neg e, if_neg (fun e' => e e'.symm)]
/-- A row of int64 in memory of its own, told by a function. -/
def Tel (w : World) (n g : Nat) (f : Nat → Int) (wr : World) : Prop := wr.ownsRow w.heap.size 2 1 (.slice (some ⟨g, 0, none⟩) n n) n ((mkL n f).map (Value.int .i64)) ∧ Fresh w wr
theorem Tel.set {w wr : World} {n g j : Nat} {f : Nat → Int} {y : Int} (h : Tel w n g f wr) : Tel w n g (fun i => if i = j then y else f i) (wr.setCell ⟨g, j, none⟩ (zV y)) := by
  obtain ⟨ho, hF⟩ := h
  have hg := (own_block ho).1
  refine ⟨?_, hF.setCell (fun e => by simp only at e; omega) _⟩
  have := own_setB (i := j) (x := zV y) ho
  rwa [← List.map_set, mkL_set] at this
theorem Tel.get {w wr : World} {n g j : Nat} {f : Nat → Int} (h : Tel w n g f wr) (hj : j < n) : wr.cell? ⟨g, j, none⟩ = some (zV (f j)) ∧ wr.frozen? ⟨g, j, none⟩ = false := by
  have h1 := own_get h.1 j hj
  rw [mkL_get hj] at h1
  exact ⟨h1, own_frozen h.1 j⟩
theorem Tel.congr {w wr : World} {n g : Nat} {f f' : Nat → Int} (h : Tel w n g f wr) (he : ∀ i, i < n → f i = f' i) : Tel w n g f' wr := by
  have : mkL n f = mkL n f' := by
    unfold mkL
    exact List.map_congr_left (fun i hi => he i (List.mem_range.1 hi))
  unfold Tel at *
  rwa [← this]
theorem Tel.drew {w wr : World} {n g : Nat} {f : Nat → Int} (h : Tel w n g f wr) (d : Nat) : Tel w n g f (wr.drewN d) := ⟨h.1, h.2.drewN d⟩

set_option maxHeartbeats 4000000 in
set_option maxRecDepth 100000 in
theorem weigh_any (p q : Nat → Prop) (v ov : Value) (zs : List Int) (o : List Nat) (w : World) (hB : Bend w) (h : Rk .i64 p w v zs) (hz : ∀ i, -17179869184 ≤ zs.getD i 0 ∧ zs.getD i 0 ≤ 17179869184) (ho : Rk .i64 q w ov (upI o)) (hlt : ∀ i ∈ o, i < zs.length) (h1 : 1 ≤ o.length) (h2 : o.length ≤ 1048576) :
    Calls Tryd.prog 35 #[v, ov] w fun e w' => ∃ g, e = .returned (.slice (some ⟨g, 0, none⟩) o.length o.length) ∧ Tel w o.length g (wtF zs o) w' := by
  obtain ⟨ao, ac, rfl, _⟩ := h.shape
  obtain ⟨oo, oc, rfl, _⟩ := ho.shape
  have hmz := h.many
  have hoL : (upI o).length = o.length := upI_length o
  rw [hoL] at ho ⊢
  obtain ⟨k, hk⟩ : ∃ k, o.length = k := ⟨_, rfl⟩
  have hog : ∀ i, i < k → o.getD i 0 < zs.length ∧ (upI o).getD i 0 = ((o.getD i 0 : Nat) : Int) := fun i hi => by
    have hi' : i < o.length := by omega
    refine ⟨?_, ?_⟩
    · rw [List.getD_eq_getElem?_getD, List.getElem?_eq_getElem hi']
      exact hlt _ (List.getElem_mem hi')
    · rw [List.getD_eq_getElem?_getD, upI_get, List.getD_eq_getElem?_getD, List.getElem?_eq_getElem hi']
      rfl
  have hpos : 0 < zs.length := by have := (hog 0 (by omega)).1; omega
  obtain ⟨b1, off1, rfl, _, hb1, hc1⟩ := h.cells.2.2.2 hpos
  obtain ⟨b2, off2, rfl, _, hb2, hc2⟩ := ho.cells.2.2.2 (by omega)
  have HC : Hid (b1 < w.heap.size ∧ b2 < w.heap.size ∧ ∀ W, Fresh w W → (∀ i, i < zs.length → W.cell? ⟨b1, off1 + i, none⟩ = some (zV (zs.getD i 0))) ∧ ∀ i, i < k → W.cell? ⟨b2, off2 + i, none⟩ = some (zV ((o.getD i 0 : Nat) : Int))) := ⟨hb1, hb2, fun W hF => ⟨fun i hi => (hF.cell (p := ⟨b1, off1 + i, none⟩) hb1 (fun e => e)).trans (hc1 i hi), fun i hi => by
    have := (hF.cell (p := ⟨b2, off2 + i, none⟩) hb2 (fun e => e)).trans (hc2 i (by omega))
    rw [(hog i hi).2] at this
    exact this⟩⟩
  have HOg : Hid (∀ i, i < k → o.getD i 0 < zs.length) := fun i hi => (hog i hi).1
  have HX : Hid (∀ i W, Bend W → Calls Tryd.prog 59 #[zV (256 * (zs.getD (o.getD i 0) 0 - zs.getD (o.getD 0 0) 0))] W fun e w' => e = .returned (zV (exF zs o i)) ∧ Drew W w') := fun i W hW => exp2_any _ W hW (by
    have := hz (o.getD i 0)
    have := hz (o.getD 0 0)
    exact ⟨by omega, by omega⟩)
  have HZ : Hid _ := hz
  have HBw : Hid (Bend w) := hB
  have HW : Hid (exS zs o o.length = exS zs o k ∧ o.length = k) := ⟨by rw [hk], hk⟩
  have hmk := run_mk ty64 k k (Nat.le_refl _) (by simp [kb]; omega) w
  have HT0 : Hid (Fil .i64 2 w k (exF zs o) 0 (w.alloc (.cells ((List.replicate k (0 : Int)).map (Value.int .i64)).toArray 2))) := Fil.start w k _ (by omega)
  rw [hk] at h2 h1 ⊢
  generalize w.alloc (.cells ((List.replicate k (0 : Int)).map (Value.int .i64)).toArray 2) = W0 at *
  generalize hnz : zs.length = n at *
  clear h ho hlt hog hc1 hc2 hb1 hb2 hB hz hoL hk hnz
  go_enter Tryd.func35, Tryd.ntmps35
  go_wp2
  clear hmk
  go_loopw [6, 17] (fun sv iv wr => ∃ j : Nat, j ≤ k ∧ iv = zV j ∧ sv = zV (exS zs o j) ∧ Hid (Fil .i64 2 w k (exF zs o) j wr)) (fun _ iv _ => k - (RowKit.intOf iv).toNat)
  case atStart => exact ⟨0, Nat.zero_le _, rfl, rfl, HT0.out⟩
  case round =>
    obtain ⟨j, hj, rfl, rfl, HA⟩ := hrel
    clear HT0
    by_cases hlt : j < k
    · have hlt' : (j : Int) < (k : Int) := by omega
      obtain ⟨hb1, hb2, hcc⟩ := HC.out
      obtain ⟨hc1, hc2⟩ := hcc wr HA.out.2
      have hP := HOg.out j hlt
      have hQ := HOg.out 0 (by omega)
      have cP := hc2 j hlt
      have c0 := hc2 0 (by omega)
      rw [Nat.add_zero] at c0
      have sP := hc1 _ hP
      have sQ := hc1 _ hQ
      have zP := HZ.out (o.getD j 0)
      have zQ := HZ.out (o.getD 0 0)
      have HCall : Hid (∀ W, Drew wr W → _) := fun W hW => HX.out j W (HBw.out.fresh (HA.out.2.trans hW.fresh (fun _ _ e => e)))
      have f4 := own_frozen HA.out.1 j
      have g4 := own_get HA.out.1 j hlt
      have hne1 : b1 ≠ w.heap.size := by omega
      have hne2 : b2 ≠ w.heap.size := by omega
      have hne1' : w.heap.size ≠ b1 := by omega
      have hne2' : w.heap.size ≠ b2 := by omega
      have HN : Hid (Fil .i64 2 w k (exF zs o) (j + 1) (wr.setCell ⟨w.heap.size, j, none⟩ (zV (exF zs o j)))) := HA.out.next hlt
      have gl : ∀ d, ((wr.setCell ⟨w.heap.size, j, none⟩ (zV (exF zs o j))).drewN d).cell? ⟨w.heap.size, j, none⟩ = some (zV (exF zs o j)) := fun d => World.cell?_setCell_same wr ⟨w.heap.size, j, none⟩ (zV (exF zs o j)) g4
      have HS1 : Hid (exS zs o (j + 1) = exS zs o j + exF zs o j) := rfl
      obtain ⟨e0, e1⟩ := exF_bound zs o j
      obtain ⟨u0, u1, _⟩ := exS_bound zs o j
      have hP' : ((o.getD j 0 : Nat) : Int) < (n : Int) := by omega
      have hQ' : ((o.getD 0 0 : Nat) : Int) < (n : Int) := by omega
      have hjk : 1073741824 * (j : Int) ≤ 1125899906842624 := by omega
      have hk0 : (0 : Int) < (k : Int) := by omega
      have hk0n : 0 < k := by omega
      clear hcc hc1 hc2 HX HC HA HZ HOg hb1 hb2 HBw
      generalize exF zs o j = e at *
      generalize exS zs o j = S at *
      generalize zs.getD (o.getD j 0) 0 = a at *
      generalize zs.getD (o.getD 0 0) 0 = b at *
      generalize o.getD j 0 = P at *
      generalize o.getD 0 0 = Q at *
      have e5 : IntKind.i64.wrap (a - b) = a - b := by rw [IntKind.wrap_i64]; omega
      have e6 : IntKind.i64.wrap (256 * (a - b)) = 256 * (a - b) := by rw [IntKind.wrap_i64]; omega
      have HCall3 : Hid (∀ W, Drew wr W → Calls Tryd.prog 59 #[.int .i64 (IntKind.i64.wrap (256 * IntKind.i64.wrap (a - b)))] W fun r w' => r = .returned (zV e) ∧ Drew W w') := fun W hW => by rw [e5, e6]; exact HCall.out W hW
      clear e5 e6 HCall
      go_wp2_with fail
      go_region_held3 (fun X => X.cell? ⟨b2, off2, none⟩ = some (zV Q) ∧ X.cell? ⟨b1, off1 + P, none⟩ = some (zV a) ∧ X.cell? ⟨b1, off1 + Q, none⟩ = some (zV b)) (go_keep) (first | (go_at_call 59; refine (HCall3.out _ ⟨1, rfl⟩).mono ?_; rintro e' w' ⟨rfl, n', rfl⟩))
      all_goals
        go_wp2
        go_roundw
        case rel => exact ⟨j + 1, hlt, by go_num, by rw [HS1.out], HN.out.drew _⟩
        case measure => simp [RowKit.intOf]; omega
    · obtain rfl : j = k := by omega
      have HT : Hid (Tel w j w.heap.size (fun i => if i < 0 then wgF zs o i else exF zs o i) wr) := by
        obtain ⟨v0, e0, ho, hFr⟩ := HA.out.done 0
        have ev : Value.slice (some ⟨w.heap.size, 0, none⟩) j j = v0 := by injection e0 with e0; injection e0 with e0; simpa using e0
        subst ev
        rw [mkL_len] at ho
        exact Tel.congr ⟨ho, hFr⟩ (fun i _ => rfl)
      have hSb := exS_bound zs o j
      have HSb : Hid (∀ i, i < j → wgF zs o i = exF zs o i * 65536 / exS zs o j) := fun i _ => by unfold wgF; rw [HW.out.1]
      have HM : Hid (∀ i, i ≤ j → 65536 - 65536 * (i : Int) ≤ msF zs o i ∧ msF zs o i ≤ 65536) := fun i hi => msF_le zs o i (by rw [HW.out.2]; exact hi)
      have HG : Hid (∀ i, i < j → 0 ≤ wgF zs o i ∧ wgF zs o i ≤ 65536) := fun i hi => wgF_bound zs o (by rw [HW.out.2]; exact hi)
      obtain ⟨S0, S1, S2⟩ := hSb
      have S3 := S2 h1
      clear HA HC HX HZ HBw HOg S2
      generalize exS zs o j = S at *
      go_wp2
      go_loopw [9, 47] (fun mv iv wr => ∃ i : Nat, i ≤ j ∧ iv = zV i ∧ mv = zV (msF zs o i) ∧ Hid (Tel w j w.heap.size (fun t => if t < i then wgF zs o t else exF zs o t) wr)) (fun _ iv _ => j - (RowKit.intOf iv).toNat)
      case atStart => exact ⟨0, Nat.zero_le _, rfl, rfl, HT.out⟩
      case round =>
        obtain ⟨i, hi, rfl, rfl, HA⟩ := hrel
        clear HT
        by_cases hlt2 : i < j
        · have hlt2' : (i : Int) < (j : Int) := by omega
          obtain ⟨g1, f1⟩ := HA.out.get hlt2
          rw [if_neg (Nat.lt_irrefl i)] at g1
          have hwg := HSb.out i hlt2
          obtain ⟨e0, e1⟩ := exF_bound zs o i
          obtain ⟨y0, y1⟩ := HG.out i hlt2
          obtain ⟨m0, m1⟩ := HM.out i hi
          have hdv : (exF zs o i * 65536).tdiv S = wgF zs o i := by rw [hwg]; exact Int.tdiv_eq_ediv_of_nonneg (by omega)
          have hS0 : ¬ S = 0 := by omega
          have HN : Hid (Tel w j w.heap.size (fun t => if t < i + 1 then wgF zs o t else exF zs o t) (wr.setCell ⟨w.heap.size, i, none⟩ (zV (wgF zs o i)))) := (HA.out.set (j := i) (y := wgF zs o i)).congr (fun t _ => by
            by_cases e : t = i
            · subst e; rw [if_pos rfl, if_pos (by omega)]
            · rw [if_neg e]
              by_cases e2 : t < i
              · rw [if_pos e2, if_pos (by omega)]
              · rw [if_neg e2, if_neg (by omega)])
          have g2 : (wr.setCell ⟨w.heap.size, i, none⟩ (zV (wgF zs o i))).cell? ⟨w.heap.size, i, none⟩ = some (zV (wgF zs o i)) := World.cell?_setCell_same wr ⟨w.heap.size, i, none⟩ _ g1
          have HMs : Hid (msF zs o (i + 1) = msF zs o i - wgF zs o i) := rfl
          clear HA HSb HG HM hwg
          generalize exF zs o i = e at *
          generalize wgF zs o i = y at *
          generalize msF zs o i = q at *
          go_wp2
          go_roundw
          case rel => exact ⟨i + 1, hlt2, by go_num, by rw [HMs.out], HN.out⟩
          case measure => simp [RowKit.intOf]; omega
        · obtain rfl : i = j := by omega
          obtain ⟨g1, f1⟩ := HA.out.get (j := 0) (by omega)
          rw [if_pos (by omega)] at g1
          obtain ⟨y0, y1⟩ := HG.out 0 (by omega)
          obtain ⟨m0, m1⟩ := HM.out i (Nat.le_refl _)
          have hi0 : (0 : Int) < (i : Int) := by omega
          have hi0n : 0 < i := by omega
          have HN : Hid (Tel w i w.heap.size (wtF zs o) (wr.setCell ⟨w.heap.size, 0, none⟩ (zV (wgF zs o 0 + msF zs o i)))) := (HA.out.set (j := 0) (y := wgF zs o 0 + msF zs o i)).congr (fun t ht => by
            unfold wtF
            rw [HW.out.2]
            by_cases e : t = 0
            · rw [if_pos e, if_pos e]
            · rw [if_neg e, if_neg e, if_pos ht])
          clear HA HSb HG HM
          generalize wgF zs o 0 = y at *
          generalize msF zs o i = q at *
          go_wp2
          go_ret
          exact ⟨_, rfl, HN.out⟩
end Go.Proofs.YtbppahmcjifflaaDoor
