/-
  Center and Largest, the package's.
-/
import Derived.Test.YtibbifklnimlcabNoC
import Derived.Test.YtibbifklnimlcabGrw
namespace Go.Proofs.Ytibbifklnimlcab
open Go.RowKit Go.Lib Go.Maps

/-- A list, a number and an error. -/
def Gives3 (k : IntKind) (e : TypeId) (L : List Int) (M E : Int) (w : World) (x : Ending) (w' : World) : Prop :=
  ∃ v, x = .returned (.tuple #[v, zV M, zV E]) ∧ w'.ownsRow w.heap.size e 1 v L.length (L.map (Value.int k)) ∧ Fresh w w'
theorem Gives3.row {k : IntKind} {e : TypeId} {L : List Int} {M E : Int} {w w' : World} {x : Ending} (h : Gives3 k e L M E w x w') (hl : L.length * kb k ≤ 140737488351232) (hz : ∀ z ∈ L, Fit k z) : ∃ v, x = .returned (.tuple #[v, zV M, zV E]) ∧ Rk k (fun b => w.heap.size ≤ b ∧ b < w'.heap.size) w' v L ∧ Fresh w w' := by
  obtain ⟨v, h1, h2, h3⟩ := h
  exact ⟨v, h1, rk_of_own h2 hl hz, h3⟩
theorem Gives.from {k : IntKind} {e : TypeId} {L : List Int} {E : Int} {w w1 w' : World} {x : Ending} (h : Gives k e L E w1 x w') (hF : Fresh w w1) : Gives k e L E w x w' := by
  obtain ⟨v, h1, h2, h3⟩ := h
  exact ⟨v, h1, own_low h2 hF.size, hF.trans h3 (fun _ _ e => e)⟩

set_option maxHeartbeats 4000000 in
set_option maxRecDepth 100000 in
theorem center_any (p : Nat → Prop) (lv : Value) (zs : List Int) (w : World) (hl : Rk .i64 p w lv zs) (h0 : nE zs = 0) :
    Calls Try.prog 15 #[lv] w fun e w' => Gives .i64 2 (ceL zs) (mN zs) w e w' := by
  obtain ⟨l1, l2, hrc⟩ := nE_zero h0
  obtain ⟨m0, m1⟩ := mN_bound l1 hrc
  obtain ⟨t0, t1⟩ := tot_bound (getD_rc hrc) zs.length
  have HS : Hid (∀ W, Fresh w W → Calls Try.prog 26 #[lv] W fun e w' => e = .returned (.tuple #[zV (tot zs zs.length), .bool true]) ∧ Drew W w') := fun W hF => by
    have := sum_any p lv zs W (hl.fresh hF).rw
    rwa [(in_in (T := tot zs zs.length) ⟨by omega, by omega⟩).1, (in_in (T := tot zs zs.length) ⟨by omega, by omega⟩).2] at this
  have HFl : Hid (∀ W, Calls Try.prog 27 #[zV (tot zs zs.length), zV zs.length] W fun e w' => e = .returned (.tuple #[zV (mN zs), zV (tot zs zs.length % (zs.length : Int)), zV 0]) ∧ Drew W w') := fun W => floor_ok _ _ W ⟨by omega, by omega⟩ (by omega) (by omega)
  have HRc : Hid (∀ j, Rc (zs.getD j 0)) := getD_rc hrc
  have HCe : Hid (ceL zs = mkL zs.length (ceF zs) ∧ ∀ j, ceF zs j = zs.getD j 0 - mN zs) := ⟨rfl, fun _ => rfl⟩
  obtain ⟨ao, ac, hva, _⟩ := hl.shape
  subst hva
  have HC1 : Hid _ := hl.stay
  rw [HCe.out.1]
  generalize zs.length = n at *
  have HFil : Hid (∀ W, Fil .i64 2 W n (ceF zs) 0 (W.alloc (.cells ((List.replicate n (0 : Int)).map (Value.int .i64)).toArray 2))) := fun W => Fil.start W n _ (by omega)
  have hmk := fun W => run_mk ty64 n n (Nat.le_refl _) (by simp only [kb]; omega) W
  clear hl h0 hrc t0 t1
  generalize tot zs n % (n : Int) = T2 at *
  generalize tot zs n = T at *
  go_enter Try.func15, Try.ntmps15
  go_wp2_with fail
  refine (HS.out w (Kept.refl _ _)).mono ?_
  rintro e w0 ⟨rfl, hd⟩
  have HF0 : Hid (Fresh w w0) := hd.fresh
  clear hd HS
  go_wp2_with fail
  refine (HFl.out _).mono ?_
  rintro e w1 ⟨rfl, hd⟩
  have hF1 : Fresh w w1 := HF0.out.trans hd.fresh (fun _ _ e => e)
  have HF1 : Hid (Fresh w w1) := hF1
  have hmk1 := hmk w1
  have hFil1 := HFil.out w1
  have HC1' : Hid (0 < n → ∃ b off, ao = some ⟨b, off, none⟩ ∧ ∀ W, Fresh w1 W → ∀ i, i < n → W.cell? ⟨b, off + i, none⟩ = some (.int .i64 (zs.getD i 0))) := fun hp => let ⟨b, off, e, h⟩ := HC1.out hp; ⟨b, off, e, fun W hF => h W (hF1.trans hF (fun _ _ e => e))⟩
  generalize w1.alloc (.cells ((List.replicate n (0 : Int)).map (Value.int .i64)).toArray 2) = W0 at *
  have HW0 : Hid _ := hFil1
  clear hd HFl HC1 hF1 hFil1 HFil hmk HF0
  go_wp2
  clear hmk1
  go_loopw [30] (fun iv wr => ∃ j : Nat, j ≤ n ∧ iv = zV j ∧ Hid (Fil .i64 2 w1 n (ceF zs) j wr)) (fun iv _ => n - (RowKit.intOf iv).toNat)
  case atStart => exact ⟨0, Nat.zero_le _, rfl, HW0.out⟩
  case round =>
    obtain ⟨j, hj, rfl, HA⟩ := hrel
    clear HW0
    by_cases hlt : j < n
    · obtain ⟨b, off, rfl, hcell⟩ := HC1'.out (by omega)
      have g1 := hcell wr HA.out.2 j hlt
      have hlt' : (j : Int) < (n : Int) := by omega
      have f3 := own_frozen HA.out.1 j
      have g3 := own_get HA.out.1 j hlt
      have hXX : Fil .i64 2 w1 n (ceF zs) (j + 1) (wr.setCell ⟨w1.heap.size, j, none⟩ (.int .i64 (ceF zs j))) := HA.out.next hlt
      rw [HCe.out.2 j] at hXX
      have HXX : Hid _ := hXX
      obtain ⟨x0, x1⟩ := HRc.out j
      clear hcell HC1' HA hXX HRc
      generalize zs.getD j 0 = x at *
      generalize mN zs = M at *
      go_wp2
      go_roundw
      case rel => exact ⟨j + 1, hlt, by go_num, HXX.out⟩
      case measure => simp [RowKit.intOf]; omega
    · obtain rfl : j = n := by omega
      have HXX : Hid (Gives .i64 2 (mkL j (ceF zs)) (mN zs) w (.returned (.tuple #[.slice (some ⟨w1.heap.size, 0, none⟩) j j, zV (mN zs)])) wr) := (HA.out.done (mN zs)).from HF1.out
      clear HA HC1'
      go_wp2
      go_ret2
      exact HXX.out

set_option maxHeartbeats 1000000 in
set_option maxRecDepth 100000 in
theorem Center_any (p : Nat → Prop) (lv : Value) (zs : List Int) (w : World) (hl : Rk .i64 p w lv zs) :
    Calls Try.prog 5 #[lv] w fun e w' => Gives3 .i64 2 (coL zs) (coM zs) (nE zs) w e w' := by
  have HR : Hid (Unit → _) := fun (_ : Unit) => refusal_any p lv zs w hl
  have HT : Hid (nE zs = 0 → _) := fun (h0 : nE zs = 0) => center_any p lv zs w hl h0
  obtain ⟨ao, ac, hva, _⟩ := hl.shape
  subst hva
  clear hl
  by_cases h0 : nE zs = 0
  · have HE : Hid (coL zs = ceL zs ∧ coM zs = mN zs) := ⟨if_pos h0, if_pos h0⟩
    have HTT : Hid (Unit → _) := fun (_ : Unit) => HT.out h0
    rw [HE.out.1, HE.out.2]
    rw [h0] at HR ⊢
    clear HT h0 HE
    generalize mN zs = M at *
    go_enter Try.func5, Try.ntmps5
    go_wp2_with fail
    refine (HR.out ()).mono ?_
    rintro e w1 ⟨rfl, hw1⟩
    have hw2 := hw1.symm
    subst hw2
    clear hw1 HR
    go_wp2_with fail
    refine (HTT.out ()).mono ?_
    rintro e w1 ⟨v, rfl, h1, h2⟩
    have HX : Hid (Gives3 .i64 2 (ceL zs) M 0 w (.returned (.tuple #[v, zV M, zV 0])) w1) := ⟨v, rfl, h1, h2⟩
    clear h1 h2 HTT
    go_wp2
    go_ret3
    exact HX.out
  · have HE : Hid (coL zs = [] ∧ coM zs = 0) := ⟨if_neg h0, if_neg h0⟩
    have h0' : (nE zs == 0) = false := beq_eq_false_iff_ne.2 h0
    rw [HE.out.1, HE.out.2]
    clear HT HE h0
    generalize nE zs = E at *
    have HX : Hid (Gives3 .i64 2 [] 0 E w (.returned (.tuple #[.slice none 0 0, zV 0, zV E])) w) := ⟨_, rfl, own_nil _ _ _, Kept.refl _ _⟩
    go_enter Try.func5, Try.ntmps5
    go_wp2_with fail
    refine (HR.out ()).mono ?_
    rintro e w1 ⟨rfl, hw1⟩
    have hw2 := hw1.symm
    subst hw2
    clear hw1 HR
    go_wp2
    go_ret3
    exact HX.out

set_option maxHeartbeats 4000000 in
set_option maxRecDepth 100000 in
theorem Largest_any (p : Nat → Prop) (lv : Value) (zs : List Int) (w : World) (hl : Rk .i64 p w lv zs) :
    Calls Try.prog 9 #[lv] w fun e w' => e = .returned (.tuple #[zV (lgV zs), zV (lgA zs), zV (nE zs)]) ∧ Fresh w w' := by
  have HR : Hid (Unit → _) := fun (_ : Unit) => refusal_any p lv zs w hl
  obtain ⟨ao, ac, hva, _⟩ := hl.shape
  subst hva
  by_cases h0 : nE zs = 0
  · obtain ⟨l1, l2, hrc⟩ := nE_zero h0
    have HE : Hid (lgV zs = (szL zs).getD (am (szL zs) zs.length).toNat 0 ∧ lgA zs = am (szL zs) zs.length) := ⟨if_pos h0, if_pos h0⟩
    have HP : Hid (0 ≤ am (szL zs) zs.length ∧ am (szL zs) zs.length < zs.length) := am_pos _ _ l1
    have HRc : Hid (∀ j, Rc (zs.getD j 0)) := getD_rc hrc
    have HSz : Hid ((szL zs).length * kb .i64 ≤ 140737488351232 ∧ ∀ z ∈ szL zs, Fit .i64 z) := ⟨by rw [szL_len]; simp only [kb]; omega, szL_fit hrc⟩
    have HSl : Hid (szL zs = mkL zs.length (szF zs) ∧ (szL zs).length = zs.length ∧ ∀ j, szF zs j = ((zs.getD j 0).natAbs : Int)) := ⟨rfl, szL_len zs, fun _ => rfl⟩
    have HC1 : Hid _ := hl.stay
    have HFil := Fil.start (k := .i64) (e := 2) w zs.length (szF zs) (by omega)
    have hmk1 := run_mk ty64 zs.length zs.length (Nat.le_refl _) (by simp only [kb]; omega) w
    rw [h0] at HR
    rw [HE.out.1, HE.out.2, h0]
    clear hl h0 hrc HE
    generalize zs.length = n at *
    generalize w.alloc (.cells ((List.replicate n (0 : Int)).map (Value.int .i64)).toArray 2) = W0 at *
    have HW0 : Hid _ := HFil
    clear HFil
    go_enter Try.func9, Try.ntmps9
    go_wp2_with fail
    refine (HR.out ()).mono ?_
    rintro e w1 ⟨rfl, hw1⟩
    have hw2 := hw1.symm
    subst hw2
    clear hw1 HR
    go_wp2
    clear hmk1
    go_loopw [20] (fun iv wr => ∃ j : Nat, j ≤ n ∧ iv = zV j ∧ Hid (Fil .i64 2 w n (szF zs) j wr)) (fun iv _ => n - (RowKit.intOf iv).toNat)
    case atStart => exact ⟨0, Nat.zero_le _, rfl, HW0.out⟩
    case round =>
      obtain ⟨j, hj, rfl, HA⟩ := hrel
      clear HW0
      by_cases hlt : j < n
      · obtain ⟨b, off, rfl, hcell⟩ := HC1.out (by omega)
        have g1 := hcell wr HA.out.2 j hlt
        have hlt' : (j : Int) < (n : Int) := by omega
        have f3 := own_frozen HA.out.1 j
        have g3 := own_get HA.out.1 j hlt
        have HXX : Hid (Fil .i64 2 w n (szF zs) (j + 1) (wr.setCell ⟨w.heap.size, j, none⟩ (.int .i64 (szF zs j)))) := HA.out.next hlt
        have HS1 : Hid (szF zs j = ((zs.getD j 0).natAbs : Int)) := HSl.out.2.2 j
        obtain ⟨x0, x1⟩ := HRc.out j
        clear hcell HC1 HA HRc HSl HSz HP
        generalize zs.getD j 0 = x at *
        by_cases hx : x < -x
        · have e1 : Hid (szF zs j = -x) := by show szF zs j = -x; rw [HS1.out]; omega
          rw [e1.out] at HXX
          clear HS1 e1
          go_wp2
          go_roundw
          case rel => exact ⟨j + 1, hlt, by go_num, HXX.out⟩
          case measure => simp [RowKit.intOf]; omega
        · have e1 : Hid (szF zs j = x) := by show szF zs j = x; rw [HS1.out]; omega
          rw [e1.out] at HXX
          clear HS1 e1
          go_wp2
          go_roundw
          case rel => exact ⟨j + 1, hlt, by go_num, HXX.out⟩
          case measure => simp [RowKit.intOf]; omega
      · obtain rfl : j = n := by omega
        obtain ⟨v, hv, hown, hF⟩ := HA.out.done 0
        rw [← HSl.out.1] at hown
        have e : v = .slice (some ⟨w.heap.size, 0, none⟩) j j := by injection hv with h; injection h with h; injection h with h; injection h with h _; exact h.symm
        subst e
        have hRk := rk_of_own hown HSz.out.1 HSz.out.2
        have hAm : ∀ W, Fresh wr W → Calls Try.prog 24 #[.slice (some ⟨w.heap.size, 0, none⟩) j j] W fun e w' => e = .returned (zV (am (szL zs) j)) ∧ Drew W w' := fun W hF => by
          have := argmax_any _ _ (szL zs) W (hRk.fresh hF).rw
          rwa [HSl.out.2.1] at this
        have HAm : Hid _ := hAm
        obtain ⟨a, ha⟩ : ∃ a : Nat, am (szL zs) j = a := ⟨(am (szL zs) j).toNat, by have := HP.out.1; omega⟩
        obtain ⟨P0, P1⟩ := HP.out
        rw [ha] at HAm P0 P1
        rw [HSl.out.2.1] at hown
        have haj : a < j := by omega
        have g5 := own_get hown a haj
        have HG5 : Hid (∀ d, (wr.drewN d).cell? ⟨w.heap.size, a, none⟩ = some (.int .i64 ((szL zs).getD a 0))) := fun d => g5
        have HF : Hid (Fresh w wr) := hF
        have HA1 : Hid (am (szL zs) j = a) := ha
        clear hv hown hF hRk hAm ha HA HC1 HRc HSl HSz HP P0 P1
        generalize hgv : (szL zs).getD a 0 = V at *
        have HGV : Hid _ := hgv
        clear hgv
        go_wp2_with fail
        refine (HAm.out _ (Kept.refl _ _)).mono ?_
        rintro e w3 ⟨rfl, d3, hw3⟩
        have g6 : w3.cell? ⟨w.heap.size, a, none⟩ = some (.int .i64 V) := by rw [hw3]; exact HG5.out d3
        have HF3 : Hid (Fresh w w3) := by show Fresh _ _; rw [hw3]; exact HF.out.drewN d3
        have haj' : (a : Int) < (j : Int) := by omega
        clear hw3 HAm HG5 g5 HF
        go_wp2
        go_ret3
        exact ⟨by rw [HA1.out, Int.toNat_natCast, HGV.out]; rfl, HF3.out⟩
  · have HE : Hid (lgV zs = 0 ∧ lgA zs = 0) := ⟨if_neg h0, if_neg h0⟩
    have h0' : (nE zs == 0) = false := beq_eq_false_iff_ne.2 h0
    rw [HE.out.1, HE.out.2]
    clear hl HE h0
    generalize nE zs = E at *
    go_enter Try.func9, Try.ntmps9
    go_wp2_with fail
    refine (HR.out ()).mono ?_
    rintro e w1 ⟨rfl, hw1⟩
    have hw2 := hw1.symm
    subst hw2
    clear hw1 HR
    go_wp2
    go_ret3
    exact ⟨rfl, Kept.refl _ _⟩
end Go.Proofs.Ytibbifklnimlcab
