/-
  Row, the package's.
-/
import Derived.Test.YtibbifklnimlcaaNoa
namespace Go.Proofs.Ytibbifklnimlcaa
open Go.RowKit Go.Lib Go.Maps

/-- A row that is being filled. -/
abbrev Fil (k : IntKind) (e : TypeId) (w : World) (n : Nat) (f : Nat → Int) (j : Nat) (wr : World) : Prop :=
  wr.ownsRow w.heap.size e 1 (.slice (some ⟨w.heap.size, 0, none⟩) n n) n ((mkL j f ++ List.replicate (n - j) 0).map (Value.int k)) ∧ Fresh w wr
theorem Fil.start {k : IntKind} {e : TypeId} (w : World) (n : Nat) (f : Nat → Int) (hn : n ≤ 140737488351232) : Fil k e w n f 0 (w.alloc (.cells ((List.replicate n (0 : Int)).map (Value.int k)).toArray e)) :=
  ⟨own_made k e w w.heap.size (Nat.le_refl _) n n (Nat.le_refl _) hn, (Kept.refl _ w).alloc _⟩
theorem Fil.next {k : IntKind} {e : TypeId} {w wr : World} {n : Nat} {f : Nat → Int} {j : Nat} (h : Fil k e w n f j wr) (hj : j < n) : Fil k e w n f (j + 1) (wr.setCell ⟨w.heap.size, j, none⟩ (.int k (f j))) := by
  refine ⟨?_, h.2.setCell (fun e => absurd e (Nat.lt_irrefl _)) _⟩
  have := own_setB (i := j) (x := Value.int k (f j)) h.1
  rw [← List.map_set, show n - j = (n - (j + 1)) + 1 by omega, set_at (mkL_len j f)] at this
  rw [mkL_succ]
  exact this
theorem Fil.drew {k : IntKind} {e : TypeId} {w wr : World} {n : Nat} {f : Nat → Int} {j : Nat} (h : Fil k e w n f j wr) (d : Nat) : Fil k e w n f j (wr.drewN d) := ⟨h.1, h.2.drewN d⟩
theorem Fil.done {k : IntKind} {e : TypeId} {w wr : World} {n : Nat} {f : Nat → Int} (h : Fil k e w n f n wr) (E : Int) : Gives k e (mkL n f) E w (.returned (.tuple #[.slice (some ⟨w.heap.size, 0, none⟩) n n, zV E])) wr := by
  refine ⟨_, rfl, ?_, h.2⟩
  have := h.1
  rw [Nat.sub_self, List.replicate_zero, List.append_nil] at this
  rw [mkL_len]
  exact this
/-- The cells of a row, whatever is made besides. -/
theorem Rk.stay {k : IntKind} {p : Nat → Prop} {w : World} {ao : Option Addr} {n cap : Nat} {zs : List Int} (h : Rk k p w (.slice ao n cap) zs) : 0 < n → ∃ b off, ao = some ⟨b, off, none⟩ ∧ ∀ W, Fresh w W → ∀ i, i < n → W.cell? ⟨b, off + i, none⟩ = some (.int k (zs.getD i 0)) := fun hp => by
  obtain ⟨b, off, e, _, hb, hcell⟩ := h.cells.2.2.2 hp
  exact ⟨b, off, e, fun W hF i hi => (hF.cell (p := ⟨b, off + i, none⟩) hb (fun e => e)).trans (hcell i hi)⟩

set_option maxHeartbeats 4000000 in
set_option maxRecDepth 100000 in
theorem Row_any (p q : Nat → Prop) (lv gv : Value) (zs gs : List Int) (w : World) (hl : Rk .i64 p w lv zs) (hg : Rk .i8 q w gv gs) :
    Calls Try.prog 13 #[lv, gv] w fun e w' => Gives .i8 45 (roL zs gs) (roE zs gs) w e w' := by
  have HR : Hid (Unit → _) := fun (_ : Unit) => refusal_any p lv zs w hl
  have HG : Hid (∀ (E : Int), Gives .i8 45 [] E w (.returned (.tuple #[.slice none 0 0, zV E])) w) := fun E => Gives.none _ _ _ _
  have HT : Hid (nE zs = 0 → _) := fun (h0 : nE zs = 0) => root_any p lv zs w hl h0
  have HRk : Hid (Rk .i64 p w lv zs ∧ Rk .i8 q w gv gs) := ⟨hl, hg⟩
  obtain ⟨ao, ac, hva, _⟩ := hl.shape
  obtain ⟨bo, bc, hvb, _⟩ := hg.shape
  clear hl hg
  by_cases q1 : zs.length = gs.length
  · rw [roE_n q1]
    by_cases h0 : nE zs = 0
    · have HE : Hid (roL zs gs = mkL zs.length (noF zs gs)) := roL_ok (by rw [roE_n q1]; exact h0)
      obtain ⟨l1, l2, hrc⟩ := nE_zero h0
      obtain ⟨r1, r2⟩ := rt_bound l1 hrc
      have HX : Hid (∀ j, j < zs.length → ∀ W, Calls Try.prog 23 #[zV (zs.getD j 0), zV (rt zs : Nat), .int .i8 (gs.getD j 0)] W fun e w' => e = .returned (zV (gN (zs.getD j 0) (rt zs) (gs.getD j 0))) ∧ Drew W w') := fun j hj W => gained_any _ _ _ W (getD_all hj hrc) r1 r2 (HRk.out.2.get j)
      have HNw : Hid (∀ j W, Calls Try.prog 22 #[zV (gN (zs.getD j 0) (rt zs) (gs.getD j 0))] W fun e w' => e = .returned (.int .i8 (noF zs gs j)) ∧ Drew W w') := fun j W => narrow_any _ W
      have HTT : Hid (Unit → _) := fun (_ : Unit) => HT.out h0
      rw [h0] at HR ⊢
      rw [HE.out]
      subst hva
      subst hvb
      rw [← q1] at HRk ⊢
      generalize zs.length = n at *
      have HC1 : Hid _ := HRk.out.1.stay
      have HC2 : Hid _ := HRk.out.2.stay
      generalize rt zs = r at *
      have HFil : Hid (∀ W, Fil .i8 45 W n (noF zs gs) 0 (W.alloc (.cells ((List.replicate n (0 : Int)).map (Value.int .i8)).toArray 45))) := fun W => Fil.start W n _ (by omega)
      have hmk := fun W => run_mk ty8 n n (Nat.le_refl _) (by simp [kb]; omega) W
      clear h0 HT hrc HG HE HRk q1
      go_enter Try.func13, Try.ntmps13
      go_wp2_with fail
      refine (HR.out ()).mono ?_
      rintro e w1 ⟨rfl, hw1⟩
      have hw2 := hw1.symm
      subst hw2
      clear hw1 HR
      go_wp2_with fail
      refine (HTT.out ()).mono ?_
      rintro e w1 ⟨rfl, hd⟩
      have hF1 : Fresh w w1 := hd.fresh
      have HF1 : Hid (Fresh w w1) := hF1
      have hmk1 := hmk w1
      have hFil1 := HFil.out w1
      have HC1' : Hid (0 < n → ∃ b off, ao = some ⟨b, off, none⟩ ∧ ∀ W, Fresh w1 W → ∀ i, i < n → W.cell? ⟨b, off + i, none⟩ = some (.int .i64 (zs.getD i 0))) := fun hp => let ⟨b, off, e, h⟩ := HC1.out hp; ⟨b, off, e, fun W hF => h W (hF1.trans hF (fun _ _ e => e))⟩
      have HC2' : Hid (0 < n → ∃ b off, bo = some ⟨b, off, none⟩ ∧ ∀ W, Fresh w1 W → ∀ i, i < n → W.cell? ⟨b, off + i, none⟩ = some (.int .i8 (gs.getD i 0))) := fun hp => let ⟨b, off, e, h⟩ := HC2.out hp; ⟨b, off, e, fun W hF => h W (hF1.trans hF (fun _ _ e => e))⟩
      generalize w1.alloc (.cells ((List.replicate n (0 : Int)).map (Value.int .i8)).toArray 45) = W0 at *
      have HW0 : Hid _ := hFil1
      clear hd HTT HC1 HC2 hF1 hFil1 HFil hmk
      go_wp2
      clear hmk1
      go_loopw [28] (fun iv wr => ∃ j : Nat, j ≤ n ∧ iv = zV j ∧ Hid (Fil .i8 45 w1 n (noF zs gs) j wr)) (fun iv _ => n - (RowKit.intOf iv).toNat)
      case atStart => exact ⟨0, Nat.zero_le _, rfl, HW0.out⟩
      case round =>
        obtain ⟨j, hj, rfl, HA⟩ := hrel
        clear HW0
        by_cases hlt : j < n
        · obtain ⟨b, off, rfl, hcell⟩ := HC1'.out (by omega)
          obtain ⟨b2, off2, rfl, hcell2⟩ := HC2'.out (by omega)
          have g1 := hcell wr HA.out.2 j hlt
          have g2 := hcell2 wr HA.out.2 j hlt
          have hlt' : (j : Int) < (n : Int) := by omega
          have HCall : Hid (∀ W, _) := fun W => HX.out j hlt W
          have HCall2 : Hid (∀ W, _) := fun W => HNw.out j W
          clear hcell hcell2 HX HNw HC1' HC2'
          generalize zs.getD j 0 = x at *
          generalize gs.getD j 0 = g at *
          generalize gN x r g = y at *
          go_wp2_with fail
          refine (HCall.out _).mono ?_
          rintro e w3 ⟨rfl, d3, hw3⟩
          have HA3 : Hid (Fil .i8 45 w1 n (noF zs gs) j w3) := by show Fil _ _ _ _ _ _ _; rw [hw3]; exact HA.out.drew d3
          clear HCall HA hw3 g1 g2
          go_wp2_with fail
          refine (HCall2.out _).mono ?_
          rintro e w4 ⟨rfl, d4, hw4⟩
          have HA4 : Hid (Fil .i8 45 w1 n (noF zs gs) j w4) := by show Fil _ _ _ _ _ _ _; rw [hw4]; exact HA3.out.drew d4
          have f3 := own_frozen HA4.out.1 j
          have g3 := own_get HA4.out.1 j hlt
          have HXX : Hid (Fil .i8 45 w1 n (noF zs gs) (j + 1) (w4.setCell ⟨w1.heap.size, j, none⟩ (.int .i8 (noF zs gs j)))) := HA4.out.next hlt
          clear HA3 HCall2 hw4 HA4
          generalize noF zs gs j = c at *
          go_wp2
          go_roundw
          case rel => exact ⟨j + 1, hlt, by go_num, HXX.out⟩
          case measure => simp [RowKit.intOf]; omega
        · obtain rfl : j = n := by omega
          have HXX : Hid (Gives .i8 45 (mkL j (noF zs gs)) 0 w (.returned (.tuple #[.slice (some ⟨w1.heap.size, 0, none⟩) j j, zV 0])) wr) := by
            obtain ⟨v, h1, h2, h3⟩ := HA.out.done 0
            exact ⟨v, h1, own_low h2 HF1.out.size, HF1.out.trans h3 (fun _ _ e => e)⟩
          clear HA HC1' HC2' HX HNw
          go_wp2
          go_ret2
          exact HXX.out
    · have HE : Hid (roL zs gs = []) := roL_bad (by rw [roE_n q1]; exact h0)
      have h0' : (nE zs == 0) = false := by simp [h0]
      rw [HE.out]
      subst hva
      subst hvb
      rw [← q1]
      clear HT HRk q1
      go_enter Try.func13, Try.ntmps13
      go_wp2_with fail
      refine (HR.out ()).mono ?_
      rintro e w1 ⟨rfl, hw1⟩
      have hw2 := hw1.symm
      subst hw2
      clear hw1 HR
      go_wp2
      go_ret2
      exact HG.out _
  · have HE : Hid (roL zs gs = [] ∧ roE zs gs = 1) := ⟨roL_bad (by rw [roE_len q1]; omega), roE_len q1⟩
    rw [HE.out.1, HE.out.2]
    have q1' : ¬ (zs.length : Int) = (gs.length : Int) := by omega
    subst hva
    subst hvb
    clear HT HRk HR
    go_enter Try.func13, Try.ntmps13
    go_wp2
    go_ret2
    exact HG.out _
end Go.Proofs.Ytibbifklnimlcaa
