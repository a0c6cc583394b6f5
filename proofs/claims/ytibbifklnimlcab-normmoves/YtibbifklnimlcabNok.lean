/-
  Layer, the package's.
-/
import Derived.Test.YtibbifklnimlcabNoj
namespace Go.Proofs.Ytibbifklnimlcab
open Go.RowKit Go.Lib Go.Maps

/-- The cells of a row, whatever is made besides, and that they lie in old memory. -/
theorem Rk.stayB {k : IntKind} {p : Nat → Prop} {w : World} {ao : Option Addr} {n cap : Nat} {zs : List Int} (h : Rk k p w (.slice ao n cap) zs) : 0 < n → ∃ b off, ao = some ⟨b, off, none⟩ ∧ b < w.heap.size ∧ ∀ W, Fresh w W → ∀ i, i < n → W.cell? ⟨b, off + i, none⟩ = some (.int k (zs.getD i 0)) := fun hp => by
  obtain ⟨b, off, e, _, hb, hcell⟩ := h.cells.2.2.2 hp
  exact ⟨b, off, e, hb, fun W hF i hi => (hF.cell (p := ⟨b, off + i, none⟩) hb (fun e => e)).trans (hcell i hi)⟩

set_option maxHeartbeats 4000000 in
set_option maxRecDepth 100000 in
theorem Layer_any (p q r : Nat → Prop) (lv gv bv : Value) (zs gs bs : List Int) (w : World) (hl : Rk .i64 p w lv zs) (hg : Rk .i8 q w gv gs) (hb : Rk .i8 r w bv bs) :
    Calls Try.prog 7 #[lv, gv, bv] w fun e w' => Gives .i8 50 (laL zs gs bs) (laE zs gs bs) w e w' := by
  have HR : Hid (Unit → _) := fun (_ : Unit) => refusal_any p lv zs w hl
  have HT : Hid (nE zs = 0 → _) := fun (h0 : nE zs = 0) => center_any p lv zs w hl h0
  have HG : Hid (∀ (W : World) (E : Int), Fresh w W → Gives .i8 50 [] E w (.returned (.tuple #[.slice none 0 0, zV E])) W) := fun W E hF => ⟨_, rfl, own_nil _ _ _, hF⟩
  obtain ⟨ao, ac, hva, _⟩ := hl.shape
  obtain ⟨bo, bc, hvb, _⟩ := hg.shape
  obtain ⟨co, cc, hvc, _⟩ := hb.shape
  subst hva
  subst hvb
  subst hvc
  by_cases q1 : zs.length = gs.length
  · by_cases q2 : zs.length = bs.length
    · by_cases h0 : nE zs = 0
      · have HTT : Hid (Unit → _) := fun (_ : Unit) => HT.out h0
        obtain ⟨l1, l2, hrc⟩ := nE_zero h0
        have HCl : Hid ((ceL zs).length * kb .i64 ≤ 140737488351232 ∧ ∀ z ∈ ceL zs, Fit .i64 z) := ⟨by rw [ceL_len]; simp only [kb]; omega, ceL_fit l1 hrc⟩
        have eE : laE zs gs bs = reE (ceL zs) := laE_c (by omega) h0
        by_cases h9 : reE (ceL zs) = 0
        · have HE : Hid (laL zs gs bs = mkL zs.length (laF zs gs bs) ∧ laE zs gs bs = 0) := ⟨laL_ok (by rw [eE]; exact h9), by rw [eE]; exact h9⟩
          have hcr := reE_zero h9
          have hcl1 : 1 ≤ (ceL zs).length := by rw [ceL_len]; exact l1
          obtain ⟨r1, r2⟩ := rt_bound hcl1 hcr
          have hn9 : nE (ceL zs) = 0 := by rw [nE_ce h0]; exact h9
          have HX : Hid (∀ j, j < zs.length → (∀ W, Calls Try.prog 21 #[zV (ceF zs j), zV (rt (ceL zs) : Nat), .int .i8 (gs.getD j 0)] W fun e w' => e = .returned (zV (gN (ceF zs j) (rt (ceL zs)) (gs.getD j 0))) ∧ Drew W w') ∧ -2199023255552 ≤ gN (ceF zs j) (rt (ceL zs)) (gs.getD j 0) ∧ gN (ceF zs j) (rt (ceL zs)) (gs.getD j 0) ≤ 2199023255552 ∧ C8 (bs.getD j 0)) := fun j hj => by
            have hc : Rc (ceF zs j) := by rw [← ceL_get hj]; exact getD_all (by rw [ceL_len]; exact hj) hcr
            exact ⟨fun W => gained_any _ _ _ W hc r1 r2 (hg.get j), (gN_bound hc r1 (hg.get j)).1, (gN_bound hc r1 (hg.get j)).2, hb.get j⟩
          have HNw : Hid (∀ j W, Calls Try.prog 20 #[zV (gN (ceF zs j) (rt (ceL zs)) (gs.getD j 0) + bs.getD j 0)] W fun e w' => e = .returned (.int .i8 (laF zs gs bs j)) ∧ Drew W w') := fun j W => narrow_any _ W
          have HRt : Hid (∀ W v, Rk .i64 (fun b => w.heap.size ≤ b ∧ b < W.heap.size) W v (ceL zs) → (Calls Try.prog 18 #[v] W fun e w' => e = .returned (zV 0) ∧ w' = W) ∧ (Calls Try.prog 19 #[v] W fun e w' => e = .returned (zV (rt (ceL zs) : Nat)) ∧ Drew W w')) := fun W v hv => ⟨by
            have := reach_any _ v (ceL zs) W hv
            rwa [h9] at this, root_any _ v (ceL zs) W hv hn9⟩
          have HCe : Hid ((ceL zs).length = zs.length ∧ ∀ j, j < zs.length → (ceL zs).getD j 0 = ceF zs j) := ⟨ceL_len zs, fun j hj => ceL_get hj⟩
          rw [HE.out.1, HE.out.2]
          rw [h0] at HR
          rw [← q1] at hg ⊢
          rw [← q2] at hb ⊢
          have HC2 : Hid _ := hg.stayB
          have HC3 : Hid _ := hb.stayB
          clear HT h0 hl hg hb eE h9 HE hcr hcl1 hn9 q1 q2 hrc HG
          generalize zs.length = n at *
          generalize rt (ceL zs) = r at *
          generalize mN zs = M at *
          have HFil : Hid (∀ W, Fil .i8 50 W n (laF zs gs bs) 0 (W.alloc (.cells ((List.replicate n (0 : Int)).map (Value.int .i8)).toArray 50))) := fun W => Fil.start W n _ (by omega)
          have hmk := fun W => run_mk ty8 n n (Nat.le_refl _) (by simp only [kb]; omega) W
          go_enter Try.func7, Try.ntmps7
          go_wp2_with fail
          refine (HR.out ()).mono ?_
          rintro e w1 ⟨rfl, hw1⟩
          have hw2 := hw1.symm
          subst hw2
          clear hw1 HR
          go_wp2_with fail
          refine (HTT.out ()).mono ?_
          rintro e w1 hG
          obtain ⟨v1, rfl, hR1, hF1⟩ := hG.row HCl.out.1 HCl.out.2
          obtain ⟨k1, k2⟩ := HRt.out w1 v1 hR1
          have K1 : Hid (Unit → _) := fun (_ : Unit) => k1
          have K2 : Hid (Unit → _) := fun (_ : Unit) => k2
          have HF1 : Hid (Fresh w w1) := hF1
          have hR1' := hR1
          obtain ⟨eo, ec, hve, _⟩ := hR1'.shape
          rw [HCe.out.1] at hve
          subst hve
          have HC1 : Hid _ := hR1.stayB
          clear hG hR1 hR1' hF1 k1 k2 HRt HTT HCl
          go_wp2_with fail
          refine (K1.out ()).mono ?_
          rintro e w2 ⟨rfl, hw1⟩
          have hw2 := hw1.symm
          subst hw2
          clear hw1 K1
          go_wp2_with fail
          refine (K2.out ()).mono ?_
          rintro e w2 ⟨rfl, hd⟩
          have hF12 : Fresh w1 w2 := hd.fresh
          have HF2 : Hid (Fresh w w2) := HF1.out.trans hF12 (fun _ _ e => e)
          have hmk1 := hmk w2
          have hFil1 := HFil.out w2
          have HC1' : Hid (0 < n → ∃ b off, eo = some ⟨b, off, none⟩ ∧ ∀ W, Fresh w2 W → ∀ i, i < n → W.cell? ⟨b, off + i, none⟩ = some (.int .i64 (ceF zs i))) := fun hp => let ⟨b, off, e, _, h⟩ := HC1.out hp; ⟨b, off, e, fun W hF i hi => by rw [h W (hF12.trans hF (fun _ _ e => e)) i hi, HCe.out.2 i hi]⟩
          have HC2' : Hid (0 < n → ∃ b off, bo = some ⟨b, off, none⟩ ∧ b < w2.heap.size ∧ ∀ W, Fresh w2 W → ∀ i, i < n → W.cell? ⟨b, off + i, none⟩ = some (.int .i8 (gs.getD i 0))) := fun hp => let ⟨b, off, e, hb, h⟩ := HC2.out hp; ⟨b, off, e, Nat.lt_of_lt_of_le hb HF2.out.size, fun W hF => h W (HF2.out.trans hF (fun _ _ e => e))⟩
          have HC3' : Hid (0 < n → ∃ b off, co = some ⟨b, off, none⟩ ∧ b < w2.heap.size ∧ ∀ W, Fresh w2 W → ∀ i, i < n → W.cell? ⟨b, off + i, none⟩ = some (.int .i8 (bs.getD i 0))) := fun hp => let ⟨b, off, e, hb, h⟩ := HC3.out hp; ⟨b, off, e, Nat.lt_of_lt_of_le hb HF2.out.size, fun W hF => h W (HF2.out.trans hF (fun _ _ e => e))⟩
          generalize w2.alloc (.cells ((List.replicate n (0 : Int)).map (Value.int .i8)).toArray 50) = W0 at *
          have HW0 : Hid _ := hFil1
          clear hd K2 HC1 HC2 HC3 hF12 hFil1 HFil hmk HF1 HCe
          go_wp2
          clear hmk1
          go_loopw [50] (fun iv wr => ∃ j : Nat, j ≤ n ∧ iv = zV j ∧ Hid (Fil .i8 50 w2 n (laF zs gs bs) j wr)) (fun iv _ => n - (RowKit.intOf iv).toNat)
          case atStart => exact ⟨0, Nat.zero_le _, rfl, HW0.out⟩
          case round =>
            obtain ⟨j, hj, rfl, HA⟩ := hrel
            clear HW0
            by_cases hlt : j < n
            · obtain ⟨b, off, rfl, hcell⟩ := HC1'.out (by omega)
              obtain ⟨b2, off2, rfl, hb2, hcell2⟩ := HC2'.out (by omega)
              obtain ⟨b3, off3, rfl, hb3, hcell3⟩ := HC3'.out (by omega)
              have g1 := hcell wr HA.out.2 j hlt
              have g2 := hcell2 wr HA.out.2 j hlt
              have g3 := hcell3 wr HA.out.2 j hlt
              have hlt' : (j : Int) < (n : Int) := by omega
              obtain ⟨hcall, y0, y1, c0, c1⟩ := HX.out j hlt
              have HCall : Hid (∀ W, _) := hcall
              have HCall2 : Hid (∀ W, _) := fun W => HNw.out j W
              have f4 := own_frozen HA.out.1 j
              have g4 := own_get HA.out.1 j hlt
              have HXX : Hid (∀ d, Fil .i8 50 w2 n (laF zs gs bs) (j + 1) ((wr.setCell ⟨w2.heap.size, j, none⟩ (.int .i8 (laF zs gs bs j))).drewN d)) := fun d => (HA.out.next hlt).drew d
              have hne2 : b2 ≠ w2.heap.size := by omega
              have hne3 : b3 ≠ w2.heap.size := by omega
              have hne2' : w2.heap.size ≠ b2 := by omega
              have hne3' : w2.heap.size ≠ b3 := by omega
              clear hcell hcell2 hcell3 HX HNw HC1' HC2' HC3' HA hcall hb2 hb3
              generalize ceF zs j = x at *
              generalize gs.getD j 0 = g at *
              generalize bs.getD j 0 = c at *
              generalize gN x r g = y at *
              generalize laF zs gs bs j = z at *
              have e1 : IntKind.i64.wrap c = c := by rw [IntKind.wrap_i64]; omega
              have e2 : IntKind.i64.wrap (y + c) = y + c := by rw [IntKind.wrap_i64]; omega
              have HCall3 : Hid (∀ W, Calls Try.prog 20 #[.int .i64 (IntKind.i64.wrap (y + IntKind.i64.wrap c))] W fun e w' => e = .returned (.int .i8 z) ∧ Drew W w') := fun W => by rw [e1, e2]; exact HCall2.out W
              clear e1 e2 HCall2
              go_wp2_with fail
              go_region_held3 (fun X => X.cell? ⟨b2, off2 + j, none⟩ = some (.int .i8 g) ∧ X.cell? ⟨b3, off3 + j, none⟩ = some (.int .i8 c)) (go_keep) (first | (go_at_call 21; refine (HCall.out _).mono ?_; rintro e w' ⟨rfl, n', rfl⟩) | (go_at_call 20; refine (HCall3.out _).mono ?_; rintro e w' ⟨rfl, n', rfl⟩))
              go_wp2
              go_roundw
              case rel => exact ⟨j + 1, hlt, by go_num, HXX.out _⟩
              case measure => simp [RowKit.intOf]; omega
            · obtain rfl : j = n := by omega
              have HXX : Hid (Gives .i8 50 (mkL j (laF zs gs bs)) 0 w (.returned (.tuple #[.slice (some ⟨w2.heap.size, 0, none⟩) j j, zV 0])) wr) := (HA.out.done 0).from HF2.out
              clear HA HC1' HC2' HC3' HX HNw
              go_wp2
              go_ret2
              exact HXX.out
        · have HE : Hid (laL zs gs bs = [] ∧ laE zs gs bs = reE (ceL zs)) := ⟨laL_bad (by rw [eE]; exact h9), eE⟩
          have h9' : (reE (ceL zs) == 0) = false := beq_eq_false_iff_ne.2 h9
          have HRt : Hid (∀ W v, Rk .i64 (fun b => w.heap.size ≤ b ∧ b < W.heap.size) W v (ceL zs) → (Calls Try.prog 18 #[v] W fun e w' => e = .returned (zV (reE (ceL zs))) ∧ w' = W)) := fun W v hv => reach_any _ v (ceL zs) W hv
          rw [HE.out.1, HE.out.2]
          rw [h0] at HR
          rw [← q1, ← q2]
          clear HT h0 hl hg hb eE h9 HE q1 q2 hrc
          generalize reE (ceL zs) = E at *
          generalize mN zs = M at *
          go_enter Try.func7, Try.ntmps7
          go_wp2_with fail
          refine (HR.out ()).mono ?_
          rintro e w1 ⟨rfl, hw1⟩
          have hw2 := hw1.symm
          subst hw2
          clear hw1 HR
          go_wp2_with fail
          refine (HTT.out ()).mono ?_
          rintro e w1 hG
          obtain ⟨v1, rfl, hR1, hF1⟩ := hG.row HCl.out.1 HCl.out.2
          have K1 : Hid (Unit → _) := fun (_ : Unit) => HRt.out w1 v1 hR1
          have HX : Hid _ := HG.out w1 E hF1
          obtain ⟨eo, ec, rfl, _⟩ := hR1.shape
          clear hG hR1 hF1 HRt HTT HCl HG
          go_wp2_with fail
          refine (K1.out ()).mono ?_
          rintro e w2 ⟨rfl, hw1⟩
          have hw2 := hw1.symm
          subst hw2
          clear hw1 K1
          go_wp2
          go_ret2
          exact HX.out
      · have eE : laE zs gs bs = nE zs := laE_n (by omega) h0
        have HE : Hid (laL zs gs bs = [] ∧ laE zs gs bs = nE zs) := ⟨laL_bad (by rw [eE]; exact h0), eE⟩
        have h0' : (nE zs == 0) = false := beq_eq_false_iff_ne.2 h0
        rw [HE.out.1, HE.out.2]
        rw [← q1, ← q2]
        have HX : Hid _ := HG.out w (nE zs) (Kept.refl _ _)
        clear HT h0 hl hg hb eE HE q1 q2 HG
        generalize nE zs = E at *
        go_enter Try.func7, Try.ntmps7
        go_wp2_with fail
        refine (HR.out ()).mono ?_
        rintro e w1 ⟨rfl, hw1⟩
        have hw2 := hw1.symm
        subst hw2
        clear hw1 HR
        go_wp2
        go_ret2
        exact HX.out
    · have eE : laE zs gs bs = 1 := laE_len (by omega)
      rw [laL_bad (by rw [eE]; omega), eE]
      have q2' : ¬ (zs.length : Int) = (bs.length : Int) := by omega
      have HX : Hid _ := HG.out w 1 (Kept.refl _ _)
      rw [← q1]
      clear HT hl hg hb eE HG HR q1
      go_enter Try.func7, Try.ntmps7
      go_wp2
      go_ret2
      exact HX.out
  · have eE : laE zs gs bs = 1 := laE_len (by omega)
    rw [laL_bad (by rw [eE]; omega), eE]
    have q1' : ¬ (zs.length : Int) = (gs.length : Int) := by omega
    have HX : Hid _ := HG.out w 1 (Kept.refl _ _)
    clear HT hl hg hb eE HG HR
    go_enter Try.func7, Try.ntmps7
    go_wp2
    go_ret2
    exact HX.out
end Go.Proofs.Ytibbifklnimlcab
