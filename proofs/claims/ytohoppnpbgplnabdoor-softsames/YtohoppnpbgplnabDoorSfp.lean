/-
  Masked, the package's.
-/
import Derived.Test.YtohoppnpbgplnabDoorSfo
namespace Go.Proofs.YtohoppnpbgplnabDoor
open Go.RowKit Go.Lib Go.Maps

/-- The list that weights are laid into, beside the places and the weights. -/
def Lay (w : World) (zs : List Int) (mk : List Bool) (n g i : Nat) (pv wv : Value) (wr : World) : Prop :=
  wr.ownsRow w.heap.size 2 1 (.slice (some ⟨g, 0, none⟩) n n) n ((mkL n (maG zs mk n i)).map zV) ∧ Fresh w wr ∧
    (wr.ownsRow w.heap.size 3 1 pv (ct mk n) ((plN mk n).map zV) ∧ pv.ownBlock ≠ some g) ∧ (wr.ownsRow w.heap.size 2 1 wv (ct mk n) ((wL (selL zs mk n)).map zV) ∧ wv.ownBlock ≠ some g)
theorem Lay.next {w : World} {zs : List Int} {mk : List Bool} {n g i : Nat} {pv wv : Value} {wr : World} (h : Lay w zs mk n g i pv wv wr) {p : Nat} (hp : p < n) (hm : mk.getD p false = true) (hc : ct mk p = i) : Lay w zs mk n g (i + 1) pv wv (wr.setCell ⟨g, p, none⟩ (zV (wF (selL zs mk n) i))) := by
  obtain ⟨h1, h2, ⟨h3, h4⟩, h5, h6⟩ := h
  have hg := (own_block h1).1
  have hK : Kept (fun b => b = g) wr (wr.setCell ⟨g, p, none⟩ (zV (wF (selL zs mk n) i))) := (Kept.refl (fun b => b = g) wr).setCell (fun _ => by show g = g; rfl) _
  have h7 := own_setB (i := p) (x := zV (wF (selL zs mk n) i)) h1
  rw [← List.map_set, maG_step hp hm hc] at h7
  exact ⟨h7, h2.setCell (fun e => by simp at e; omega) _, ⟨owns_kept h3 hK (fun q hq e => h4 (by rw [hq, e])), h4⟩, owns_kept h5 hK (fun q hq e => h6 (by rw [hq, e])), h6⟩
theorem own_at {w : World} {B : Nat} {e : TypeId} {ao : Option Addr} {n cp : Nat} {zs : List Int} (h : w.ownsRow B e 1 (.slice ao n cp) n (zs.map zV)) {i : Nat} (hi : i < n) : ∃ g, ao = some ⟨g, 0, none⟩ ∧ w.cell? ⟨g, i, none⟩ = some (zV (zs.getD i 0)) := by
  rcases h.2 with ⟨e0, h0⟩ | ⟨g, cap, cur, hv, _⟩
  · omega
  · injection hv with e1 _ _
    subst e1
    exact ⟨g, rfl, own_get h i hi⟩

set_option maxHeartbeats 4000000 in
set_option maxRecDepth 100000 in
theorem Masked_any (p q : Nat → Prop) (v mv : Value) (zs : List Int) (mk : List Bool) (w : World) (hB : Bend w) (h : Rk .i64 p w v zs) (hM : Rb q w mv mk) :
    Calls Tryd.prog 13 #[v, mv] w fun e w' => Gives .i64 2 (maL zs mk) (maE zs mk) w e w' := by
  have HS : Hid (Unit → _) := fun (_ : Unit) => seen_any p v zs w h
  have HG0 : Hid (∀ E W, Fresh w W → Gives .i64 2 [] E w (.returned (.tuple #[.slice none 0 0, zV E])) W) := fun E W hF => ⟨_, rfl, own_nil _ _ _, hF⟩
  have hmany := h.many
  have hmany2 := hM.many
  by_cases hk : 1 ≤ zs.length ∧ zs.length ≤ 512
  · rw [decide_eq_true hk] at HS
    obtain ⟨k1, k2⟩ := hk
    by_cases c0 : mk.length = zs.length
    · have HLB : Hid (Unit → _) := fun (_ : Unit) => letBe_any q mv mk w hM (by omega)
      by_cases c1 : ct mk zs.length = 0
      · obtain ⟨e1, e2⟩ := ma_masked k1 k2 c0 c1
        rw [e1, e2]
        obtain ⟨ao, ac, rfl, _⟩ := h.shape
        obtain ⟨bo, bc, rfl⟩ := hM.shape
        rw [c0] at HLB hmany2 ⊢
        rw [c1] at HLB
        clear h hB hM e1 e2 c1 c0
        generalize zs.length = n at *
        go_enter Tryd.func13, Tryd.ntmps13
        go_wp2_with fail
        refine (HS.out ()).mono ?_
        rintro e w1 ⟨rfl, hw1⟩
        have hw2 := hw1.symm
        subst hw2
        clear hw1 HS
        go_wp2_with fail
        refine (HLB.out ()).mono ?_
        rintro e w1 ⟨po, pc, rfl, _, hF1⟩
        have HX : Hid _ := HG0.out 111 w1 hF1
        clear HLB HG0 hF1
        go_wp2
        go_ret2
        exact HX.out
      · obtain ⟨e1, e2⟩ := ma_ok k1 k2 c0 c1
        rw [e1, e2]
        have hcl := ct_le mk zs.length
        have HPl : Hid (∀ i, i < ct mk zs.length → _) := fun i hi => pl_at mk zs.length i hi
        have HSel : Hid (selL zs mk zs.length = mkL (ct mk zs.length) (fun i => zs.getD ((plN mk zs.length).getD i 0).toNat 0)) := selL_mk _ _ _
        have HSF : Hid (∀ z ∈ selL zs mk zs.length, Fit .i64 z) := selL_fit mk zs.length (fun i => h.get i)
        have HSL : Hid ((selL zs mk zs.length).length = ct mk zs.length) := selL_len _ _ _
        obtain ⟨ao, ac, rfl, _⟩ := h.shape
        obtain ⟨bo, bc, rfl⟩ := hM.shape
        have HC1 : Hid _ := h.stay
        have HBw : Hid (Bend w) := hB
        have HDone : Hid (mkL zs.length (maG zs mk zs.length (ct mk zs.length)) = mkL zs.length (maF zs mk zs.length)) := maG_done
        have HZero : Hid (mkL zs.length (maG zs mk zs.length 0) = List.replicate zs.length 0) := maG_zero _ _ _
        rw [c0] at HLB hmany2 ⊢
        clear h hB hM e1 e2 c0 HG0
        generalize zs.length = n at *
        obtain ⟨b1, off1, rfl, hcell1⟩ := HC1.out (by omega)
        have HCe : Hid _ := hcell1
        obtain ⟨c, hc⟩ : ∃ c, ct mk n = c := ⟨_, rfl⟩
        have Hc : Hid (ct mk n = c) := hc
        rw [hc] at HLB HPl HSel HSL HDone c1 hcl
        have c1' : ¬ (c : Int) = 0 := by omega
        have hmk := fun W => run_mk ty64 c c (Nat.le_refl _) (by simp [kb]; omega) W
        have hmk2 := fun W => run_mk ty64 n n (Nat.le_refl _) (by simp [kb]; omega) W
        have HFil : Hid (∀ W, Fil .i64 2 W c (fun i => zs.getD ((plN mk n).getD i 0).toNat 0) 0 (W.alloc (.cells ((List.replicate c (0 : Int)).map (Value.int .i64)).toArray 2))) := fun W => Fil.start W c _ (by omega)
        clear HC1 hcell1 hc
        go_enter Tryd.func13, Tryd.ntmps13
        go_wp2_with fail
        refine (HS.out ()).mono ?_
        rintro e w1 ⟨rfl, hw1⟩
        have hw2 := hw1.symm
        subst hw2
        clear hw1 HS
        go_wp2_with fail
        refine (HLB.out ()).mono ?_
        rintro e w1 ⟨po, pc, rfl, hP1, hF1⟩
        have HP1 : Hid _ := hP1
        have HF1 : Hid (Fresh w w1) := hF1
        have hmk1 := hmk w1
        have hFil1 := HFil.out w1
        generalize w1.alloc (.cells ((List.replicate c (0 : Int)).map (Value.int .i64)).toArray 2) = W0 at *
        have HW0 : Hid (Fil .i64 2 w1 c (fun i => zs.getD ((plN mk n).getD i 0).toNat 0) 0 W0) := hFil1
        clear hP1 hF1 hFil1 HFil hmk HLB
        go_wp2
        clear hmk1
        go_loopw [33] (fun iv wr => ∃ i : Nat, i ≤ c ∧ iv = zV i ∧ Hid (Fil .i64 2 w1 c (fun i => zs.getD ((plN mk n).getD i 0).toNat 0) i wr)) (fun iv _ => c - (RowKit.intOf iv).toNat)
        case atStart => exact ⟨0, Nat.zero_le _, rfl, HW0.out⟩
        case round =>
          obtain ⟨i, hi, rfl, HA⟩ := hrel
          clear HW0
          by_cases hlt : i < c
          · obtain ⟨pg, rfl, hpc⟩ := own_at (owns_kept HP1.out HA.out.2 (fun _ _ e => e)) hlt
            obtain ⟨pl, e1, e2, _, _⟩ := HPl.out i hlt
            have g1 := HCe.out wr (HF1.out.trans HA.out.2 (fun _ _ e => e)) pl e2
            rw [e1] at hpc
            have hlt' : (i : Int) < (c : Int) := by omega
            have e2' : (pl : Int) < (n : Int) := by omega
            have f3 := own_frozen HA.out.1 i
            have g3 := own_get HA.out.1 i hlt
            have HXX : Hid (Fil .i64 2 w1 c (fun i => zs.getD ((plN mk n).getD i 0).toNat 0) (i + 1) (wr.setCell ⟨w1.heap.size, i, none⟩ (.int .i64 (zs.getD pl 0)))) := by
              have := HA.out.next hlt
              rw [e1, Int.toNat_natCast] at this
              exact this
            clear HA HPl HSel HSF HSL HCe HDone HZero hmk2 e1 HP1
            generalize zs.getD pl 0 = x at *
            go_wp2
            go_roundw
            case rel => exact ⟨i + 1, hlt, by go_num, HXX.out⟩
            case measure => simp [RowKit.intOf]; omega
          · obtain rfl : i = c := by omega
            have hFw : Fresh w wr := HF1.out.trans HA.out.2 (fun _ _ e => e)
            have hmk3 := hmk2 wr
            obtain ⟨W3, hW3⟩ : ∃ W3, W3 = wr.alloc (.cells ((List.replicate n (0 : Int)).map (Value.int .i64)).toArray 2) := ⟨_, rfl⟩
            have hF3 : Fresh wr W3 := by rw [hW3]; exact (Kept.refl _ wr).alloc _
            have hs3 : W3.heap.size = wr.heap.size + 1 := by rw [hW3]; simp
            have hL3 : W3.ownsRow w.heap.size 2 1 (.slice (some ⟨wr.heap.size, 0, none⟩) n n) n ((List.replicate n (0 : Int)).map zV) := by rw [hW3]; exact own_made .i64 2 wr w.heap.size hFw.size n n (Nat.le_refl _) (by omega)
            have hsel := HA.out.1
            rw [Nat.sub_self, List.replicate_zero, List.append_nil, ← HSel.out] at hsel
            have hRsel : Rk .i64 (fun b => w1.heap.size ≤ b ∧ b < W3.heap.size) W3 (.slice (some ⟨w1.heap.size, 0, none⟩) i i) (selL zs mk n) := rk_of_own (owns_kept hsel hF3 (fun _ _ e => e)) (by rw [HSL.out]; simp [kb]; omega) HSF.out
            have HCall : Hid (Unit → _) := fun (_ : Unit) => weights_any _ _ (selL zs mk n) W3 (HBw.out.fresh (hFw.trans hF3 (fun _ _ e => e))) hRsel (by rw [HSL.out]; omega) (by rw [HSL.out]; omega)
            rw [HSL.out] at HCall
            have HP3 : Hid (W3.ownsRow w.heap.size 3 1 (.slice po i pc) i ((plN mk n).map zV) ∧ (Value.slice po i pc).ownBlock ≠ some wr.heap.size) := by
              have h1 := owns_kept HP1.out HA.out.2 (fun _ _ e => e)
              exact ⟨owns_kept h1 hF3 (fun _ _ e => e), fun e => by have := owns_lt h1 e; omega⟩
            have HL3 : Hid (W3.ownsRow w.heap.size 2 1 (.slice (some ⟨wr.heap.size, 0, none⟩) n n) n ((mkL n (maG zs mk n 0)).map zV) ∧ Fresh w W3 ∧ wr.heap.size < W3.heap.size) := ⟨by rw [HZero.out]; exact hL3, hFw.trans hF3 (fun _ _ e => e), by omega⟩
            rw [← hW3] at hmk3
            have hwL : wL (selL zs mk n) = mkL (ct mk n) (wF (selL zs mk n)) := by unfold wL; rw [HSL.out, Hc.out]
            have HwL : Hid _ := hwL
            clear hF3 hs3 hL3 hsel hRsel hW3 hFw HA HP1 hmk2 HSel HSF HCe HZero HBw HF1 hwL
            generalize wr.heap.size = g at *
            go_wp2_with fail
            refine (HCall.out ()).mono ?_
            rintro e w5 ⟨rfl, hf5⟩
            have HLay : Hid (Lay w zs mk n g 0 (.slice po i pc) (.slice (some ⟨W3.heap.size, 0, none⟩) i i) w5) := by
              refine ⟨owns_kept HL3.out.1 hf5.2 (fun _ _ e => e), HL3.out.2.1.trans hf5.2 (fun _ _ e => e), ?_, ?_⟩
              · rw [Hc.out]; exact ⟨owns_kept HP3.out.1 hf5.2 (fun _ _ e => e), HP3.out.2⟩
              · have h1 := hf5.1
                rw [Nat.sub_self, List.replicate_zero, List.append_nil] at h1
                rw [HwL.out, Hc.out]
                exact ⟨own_low h1 HL3.out.2.1.size, fun e => by have := HL3.out.2.2; simp [Value.ownBlock] at e; omega⟩
            clear hf5 HCall hmk3 HL3 HP3
            generalize W3.heap.size = wg at *
            go_wp2
            go_loopw [52] (fun iv wr => ∃ k : Nat, k ≤ i ∧ iv = zV k ∧ Hid (Lay w zs mk n g k (.slice po i pc) (.slice (some ⟨wg, 0, none⟩) i i) wr)) (fun iv _ => i - (RowKit.intOf iv).toNat)
            case atStart => exact ⟨0, Nat.zero_le _, rfl, HLay.out⟩
            case round =>
              obtain ⟨k, hk, rfl, HA⟩ := hrel
              clear HLay
              by_cases hlt : k < i
              · obtain ⟨pl, e1, e2, e3, e4⟩ := HPl.out k hlt
                have hP := HA.out.2.2.1.1
                rw [Hc.out] at hP
                obtain ⟨pg, rfl, hpc⟩ := own_at hP hlt
                rw [e1] at hpc
                have hW := HA.out.2.2.2.1
                rw [Hc.out] at hW
                obtain ⟨wg', ew, hwc⟩ := own_at hW hlt
                injection ew with ew
                injection ew with ew
                subst ew
                rw [HwL.out, mkL_get (by rw [Hc.out]; exact hlt)] at hwc
                have hlt' : (k : Int) < (i : Int) := by omega
                have e2' : (pl : Int) < (n : Int) := by omega
                have f3 := own_frozen HA.out.1 pl
                have g3 := own_get HA.out.1 pl e2
                have HXX : Hid _ := HA.out.next e2 e3 e4
                clear HA HPl HSL hP hW HwL HDone e1 e3 e4
                generalize wF (selL zs mk n) k = x at *
                go_wp2
                go_roundw
                case rel => exact ⟨k + 1, hlt, by go_num, HXX.out⟩
                case measure => simp [RowKit.intOf]; omega
              · obtain rfl : k = i := by omega
                have HFin : Hid (Gives .i64 2 (mkL n (maF zs mk n)) 0 w (.returned (.tuple #[.slice (some ⟨g, 0, none⟩) n n, zV 0])) _) := ⟨_, rfl, by rw [mkL_len, ← HDone.out]; exact HA.out.1, HA.out.2.1⟩
                clear HA HPl HSL HwL HDone
                go_wp2
                go_ret2
                exact HFin.out
    · obtain ⟨e1, e2⟩ := ma_arg (zs := zs) (mk := mk) (.inr c0)
      rw [e1, e2]
      obtain ⟨ao, ac, rfl, _⟩ := h.shape
      obtain ⟨bo, bc, rfl⟩ := hM.shape
      have c0' : ¬ (mk.length : Int) = (zs.length : Int) := by omega
      have HX : Hid _ := HG0.out 1 w (Kept.refl _ _)
      clear h hB hM e1 e2 c0 HG0
      generalize zs.length = n at *
      generalize mk.length = m at *
      go_enter Tryd.func13, Tryd.ntmps13
      go_wp2_with fail
      refine (HS.out ()).mono ?_
      rintro e w1 ⟨rfl, hw1⟩
      have hw2 := hw1.symm
      subst hw2
      clear hw1 HS
      go_wp2
      go_ret2
      exact HX.out
  · rw [decide_eq_false hk] at HS
    obtain ⟨e1, e2⟩ := ma_arg (zs := zs) (mk := mk) (.inl (by omega))
    rw [e1, e2]
    obtain ⟨ao, ac, rfl, _⟩ := h.shape
    obtain ⟨bo, bc, rfl⟩ := hM.shape
    have HX : Hid _ := HG0.out 1 w (Kept.refl _ _)
    clear h hB hM e1 e2 HG0
    generalize zs.length = n at *
    generalize mk.length = m at *
    go_enter Tryd.func13, Tryd.ntmps13
    go_wp2_with fail
    refine (HS.out ()).mono ?_
    rintro e w1 ⟨rfl, hw1⟩
    have hw2 := hw1.symm
    subst hw2
    clear hw1 HS
    go_wp2
    go_ret2
    exact HX.out
end Go.Proofs.YtohoppnpbgplnabDoor
