/-
  Whether parts are as long as they should be; a matrix of words; a block's shifts; the greatest size.
-/
import Derived.Test.YtakiimjldccgcabDoorStRToVoN
import Derived.Test.YtakiimjldccgcabDoorVcaToMkL
namespace Go.Proofs.YtakiimjldccgcabDoor
open Go.RowKit Go.Lib Go.Maps

/-- Parts in a row: the list of the i-th one has ln i numbers, and should have sz i. -/
def PtR (w : World) (g n : Nat) (ln : Nat → Nat) (sz : Nat → Int) : Prop := ∀ i, i < n → (∃ ao c, w.cell? ⟨g, i * 2, none⟩ = some (.slice ao (ln i) c)) ∧ w.cell? ⟨g, i * 2 + 1, none⟩ = some (zV (sz i))
def fitF (n : Nat) (ln : Nat → Nat) (sz : Nat → Int) : Bool := (List.range n).all (fun i => decide ((ln i : Int) = sz i))
theorem fitF_iff (n : Nat) (ln : Nat → Nat) (sz : Nat → Int) : fitF n ln sz = true ↔ ∀ i, i < n → (ln i : Int) = sz i := by
  unfold fitF
  rw [List.all_eq_true]
  simp
theorem fitF_no {n : Nat} {ln : Nat → Nat} {sz : Nat → Int} {i : Nat} (hi : i < n) (h : (ln i : Int) ≠ sz i) : fitF n ln sz = false := by
  rw [Bool.eq_false_iff]
  intro e
  exact h ((fitF_iff n ln sz).1 e i hi)
set_option maxHeartbeats 1000000 in
set_option maxRecDepth 100000 in
theorem fit8_any (g n c : Nat) (ln : Nat → Nat) (sz : Nat → Int) (w : World) (hg : g < w.heap.size) (hP : PtR w g n ln sz) (hn : n ≤ 1048576) : Calls Tryd.prog 60 #[.slice (some ⟨g, 0, none⟩) n c] w fun e w' => e = .returned (.bool (fitF n ln sz)) ∧ Fresh w w' := by
  have HP : Hid (∀ X, Fresh w X → ∀ i, i < n → (∃ ao c, X.cell? ⟨g, i * 2, none⟩ = some (.slice ao (ln i) c)) ∧ X.cell? ⟨g, i * 2 + 1, none⟩ = some (zV (sz i))) := fun X hX i hi => by
    obtain ⟨⟨ao, c, h1⟩, h2⟩ := hP i hi
    exact ⟨⟨ao, c, (hX.cell (p := ⟨g, i * 2, none⟩) hg (fun e => e)).trans h1⟩, (hX.cell (p := ⟨g, i * 2 + 1, none⟩) hg (fun e => e)).trans h2⟩
  have HF := show Hid _ from fitF_iff n ln sz
  have HNO : Hid (∀ i, i < n → (ln i : Int) ≠ sz i → fitF n ln sz = false) := fun i hi h => fitF_no hi h
  clear hP hg
  generalize fitF n ln sz = R at *
  go_enter Tryd.func60, Tryd.ntmps60
  go_wp2
  go_loopw [7] (fun iv wr => ∃ j : Nat, j ≤ n ∧ iv = zV j ∧ Hid (Fresh w wr ∧ ∀ i, i < j → (ln i : Int) = sz i)) (fun iv _ => n - (RowKit.intOf iv).toNat)
  case atStart => exact ⟨0, Nat.zero_le _, rfl, Kept.refl _ _, fun i h => absurd h (Nat.not_lt_zero _)⟩
  case round =>
    obtain ⟨j, hj, rfl, HA⟩ := hrel
    by_cases hlt : j < n
    · have hlt' : (j : Int) < (n : Int) := by omega
      have h0j : (0 : Int) ≤ (j : Int) := by omega
      obtain ⟨⟨ao, lc, c0⟩, c1⟩ := HP.out wr HA.out.1 j hlt
      have hF2 : Hid (Fresh w (wr.alloc (.cells #[.slice ao (ln j) lc, zV (sz j)] 131))) := HA.out.1.alloc _
      obtain ⟨l, hl⟩ : ∃ l, ln j = l := ⟨_, rfl⟩
      obtain ⟨z, hz⟩ : ∃ z, sz j = z := ⟨_, rfl⟩
      rw [hl] at c0 hF2
      rw [hz] at c1 hF2
      by_cases he : (l : Int) = z
      · have hne : ((l : Int) != z) = false := by simp [he]
        have HZ : Hid (∀ i, i < j + 1 → (ln i : Int) = sz i) := fun i hi => by
          rcases Nat.lt_or_ge i j with e | e
          · exact HA.out.2 i e
          · rw [show i = j by omega, hl, hz]; exact he
        clear he hl hz HA HNO HF HP
        go_wp2
        go_roundw
        case rel => exact ⟨j + 1, hlt, by go_num, hF2.out, HZ.out⟩
        case measure => simp [RowKit.intOf]; omega
      · have hne : ((l : Int) != z) = true := bne_iff_ne.2 he
        have HR : Hid (R = false) := HNO.out j hlt (by rw [hl, hz]; exact he)
        clear he hl hz HA HNO HF HP
        go_wp2
        go_ret
        exact ⟨by rw [HR.out]; rfl, hF2.out⟩
    · obtain rfl : j = n := by omega
      have hlt' : ¬ ((j : Int) < (j : Int)) := by omega
      have HR : Hid (R = true ∧ Fresh w wr) := ⟨HF.out.2 HA.out.2, HA.out.1⟩
      clear HA HNO HF HP
      go_wp2
      go_ret
      exact ⟨by rw [HR.out.1]; rfl, HR.out.2⟩
end Go.Proofs.YtakiimjldccgcabDoor

/-
  What is wrong with lists and matrices; the rows of a matrix, the package's and the document's. (Split out of Vcb, Vcc, Vcd.)
-/
namespace Go.Proofs.YtakiimjldccgcabDoor
open Go.RowKit Go.Lib Go.Maps

/-- What is wrong with a list's length. -/
def bE (n : Nat) : Int := if 1048576 < n then 81 else 0
theorem bE_many {n : Nat} (h : 1048576 < n) : bE n = 81 := if_pos h
theorem bE_ok {n : Nat} (h : n ≤ 1048576) : bE n = 0 := if_neg (by omega)

theorem bounded8_any (ao : Option Addr) (n c : Nat) (w : World) : Calls Tryd.prog 102 #[.slice ao n c] w fun e w' => e = .returned (zV (bE n)) ∧ w' = w := by
  by_cases h : 1048576 < n
  · have h' : (1048576 : Int) < (n : Int) := by omega
    rw [bE_many h]
    go_enter Tryd.func102, Tryd.ntmps102
    go_wp2
    go_ret
    exact ⟨rfl, rfl⟩
  · have h' : ¬ (1048576 : Int) < (n : Int) := by omega
    rw [bE_ok (by omega)]
    go_enter Tryd.func102, Tryd.ntmps102
    go_wp2
    go_ret
    exact ⟨rfl, rfl⟩

set_option maxHeartbeats 1000000 in
theorem rowsOf_any (ao : Option Addr) (cap : Nat) (zs : List Int) (c : Int) (w : World) :
    Calls Tryd.prog 93 #[.slice ao zs.length cap, zV c] w fun e w' => e = .returned (.tuple #[zV (mR zs c), zV (mE zs c)]) ∧ w' = w := by
  have hB := bounded8_any ao zs.length cap w
  rcases m_cases zs c with h | ⟨h, h1⟩ | ⟨h, k, rfl, h1, h2, h3⟩ | ⟨h, k, R, rfl, h1, h2⟩
  · rw [bE_many h] at hB
    have HB : Hid (Unit → _) := fun (_ : Unit) => hB
    rw [mR_bad (by rw [mE_many c h]; omega), mE_many c h]
    clear hB
    go_enter Tryd.func93, Tryd.ntmps93
    go_wp2_with fail
    refine (HB.out ()).mono ?_
    rintro e w1 ⟨rfl, rfl⟩
    go_wp2
    go_ret2
    exact ⟨rfl, rfl⟩
  · rw [bE_ok h] at hB
    have HB : Hid (Unit → _) := fun (_ : Unit) => hB
    rw [mR_bad (by rw [mE_low h h1]; omega), mE_low h h1]
    clear hB
    go_enter Tryd.func93, Tryd.ntmps93
    go_wp2_with fail
    refine (HB.out ()).mono ?_
    rintro e w1 ⟨rfl, rfl⟩
    go_wp2
    go_ret2
    exact ⟨rfl, rfl⟩
  · rw [bE_ok h] at hB
    have HB : Hid (Unit → _) := fun (_ : Unit) => hB
    rw [mR_bad (by rw [mE_rest h h2]; omega), mE_rest h h2]
    have h4 : ¬ (k : Int) < 1 := by omega
    have h5 : ¬ (k : Int) = 0 := by omega
    have h2b : ((zs.length : Int) % k != 0) = true := bne_iff_ne.2 h2
    clear hB h3
    go_enter Tryd.func93, Tryd.ntmps93
    go_wp2_with fail
    refine (HB.out ()).mono ?_
    rintro e w1 ⟨rfl, rfl⟩
    go_wp2
    go_ret2
    exact ⟨rfl, rfl⟩
  · rw [bE_ok h] at hB
    have HB : Hid (Unit → _) := fun (_ : Unit) => hB
    obtain ⟨e1, e2⟩ := mE_ok h h1 h2
    rw [e1, e2]
    have h4 : ¬ (k : Int) < 1 := by omega
    have h5 : ¬ (k : Int) = 0 := by omega
    have h6 : (zs.length : Int) % k = 0 := by rw [h2, Int.natCast_mul]; exact Int.mul_emod_left _ _
    have h7 : (zs.length : Int) / k = R := by rw [h2, Int.natCast_mul]; exact Int.mul_ediv_cancel _ h5
    have h8 : R ≤ zs.length := by rw [h2]; exact Nat.le_mul_of_pos_right _ h1
    clear hB e1 e2 h2
    go_enter Tryd.func93, Tryd.ntmps93
    go_wp2_with fail
    refine (HB.out ()).mono ?_
    rintro e w1 ⟨rfl, rfl⟩
    go_wp2
    go_ret2
    exact ⟨rfl, rfl⟩

set_option maxHeartbeats 1000000 in
theorem Matrix_any (ao : Option Addr) (cap : Nat) (zs : List Int) (c : Int) (w : World) :
    Calls Tryd.prog 99 #[.slice ao zs.length cap, zV c] w fun e w' => e = .returned (zV (mE zs c)) ∧ w' = w := by
  rcases m_cases zs c with h | ⟨h, h1⟩ | ⟨h, k, rfl, h1, h2, h3⟩ | ⟨h, k, R, rfl, h1, h2⟩
  · rw [mE_many c h]
    have h' : (1048576 : Int) < (zs.length : Int) := by omega
    go_enter Tryd.func99, Tryd.ntmps99
    go_wp2
    go_ret
    exact ⟨rfl, rfl⟩
  · rw [mE_low h h1]
    have h' : ¬ (1048576 : Int) < (zs.length : Int) := by omega
    go_enter Tryd.func99, Tryd.ntmps99
    go_wp2
    go_ret
    exact ⟨rfl, rfl⟩
  · rw [mE_rest h h2]
    have h' : ¬ (1048576 : Int) < (zs.length : Int) := by omega
    have h4 : ¬ (k : Int) < 1 := by omega
    have h5 : ¬ (k : Int) = 0 := by omega
    have h2b : ((zs.length : Int) % k != 0) = true := bne_iff_ne.2 h2
    clear h3
    go_enter Tryd.func99, Tryd.ntmps99
    go_wp2
    go_ret
    exact ⟨rfl, rfl⟩
  · obtain ⟨e1, e2⟩ := mE_ok h h1 h2
    rw [e1]
    have h' : ¬ (1048576 : Int) < (zs.length : Int) := by omega
    have h4 : ¬ (k : Int) < 1 := by omega
    have h5 : ¬ (k : Int) = 0 := by omega
    have h6 : (zs.length : Int) % k = 0 := by rw [h2, Int.natCast_mul]; exact Int.mul_emod_left _ _
    clear e1 e2 h2
    go_enter Tryd.func99, Tryd.ntmps99
    go_wp2
    go_ret
    exact ⟨rfl, rfl⟩
theorem mE_zero {w : List Int} {c : Int} (h : mE w c = 0) : w.length ≤ 1048576 ∧ ∃ k R : Nat, c = k ∧ 1 ≤ k ∧ w.length = R * k := by
  rcases m_cases w c with h' | ⟨h', h1⟩ | ⟨h', k, rfl, h1, h2, h3⟩ | h'
  · rw [mE_many c h'] at h; cases h
  · rw [mE_low h' h1] at h; cases h
  · rw [mE_rest h' h2] at h; cases h
  · exact h'
theorem range_take (f : Nat → Int) {R r : Nat} (h : r < R) : ((List.range R).map f).take (r + 1) = ((List.range R).map f).take r ++ [f r] := by
  rw [List.take_succ_eq_append_getElem (by simpa using h)]
  simp
end Go.Proofs.YtakiimjldccgcabDoor

/-
  Sizes, the package's and the document's.
-/
namespace Go.Proofs.YtakiimjldccgcabDoor
open Go.RowKit Go.Lib Go.Maps

/-- The sizes behind the first j numbers. -/
def szP (zs : List Int) (c R j : Nat) : List Int := (List.range R).map (fun r => sizeN ((part zs c r).take (j - r * c)))
theorem szP_length (zs : List Int) (c R j : Nat) : (szP zs c R j).length = R := by simp [szP]
theorem sizeN_nil : sizeN [] = 0 := rfl
theorem szP_zero (zs : List Int) (c R : Nat) : szP zs c R 0 = List.replicate R 0 := by
  apply List.ext_getElem (by simp [szP])
  intro i h1 h2
  simp [szP, sizeN_nil]
theorem szP_all {zs : List Int} {c R : Nat} (h : zs.length = R * c) (hc : 1 ≤ c) : szP zs c R zs.length = sizesN zs c := by
  rw [sizesN_rows h hc]
  apply List.map_congr_left
  intro r hr
  have hr' : r < R := by simpa using hr
  rw [List.take_of_length_le]
  rw [part_length h hr', h]
  have := Nat.mul_le_mul_right c (show r + 1 ≤ R from hr')
  rw [Nat.add_mul, Nat.one_mul] at this
  omega
theorem szP_get (zs : List Int) (c R j r : Nat) (h : r < R) : (szP zs c R j).getD r 0 = sizeN ((part zs c r).take (j - r * c)) := by
  rw [List.getD_eq_getElem?_getD]
  simp [szP, h]
theorem szP_step {zs : List Int} {c R j : Nat} (h : zs.length = R * c) (hc : 1 ≤ c) (hj : j < zs.length) : j / c < R ∧ szP zs c R (j + 1) = (szP zs c R j).set (j / c) ((szP zs c R j).getD (j / c) 0 + ((zs.getD j 0).natAbs : Int)) := by
  have hq : j / c < R := by rw [Nat.div_lt_iff_lt_mul hc]; omega
  refine ⟨hq, ?_⟩
  have hdm := Nat.div_add_mod j c
  have hml := Nat.mod_lt j hc
  rw [Nat.mul_comm] at hdm
  apply List.ext_getElem (by simp [szP_length])
  intro r h1 h2
  rw [szP_length] at h1
  rw [List.getElem_set]
  by_cases e : j / c = r
  · subst e
    rw [if_pos rfl, szP_get _ _ _ _ _ h1, ← getD_getElem, szP_get _ _ _ _ _ h1]
    have e1 : j - j / c * c = j % c := by omega
    have e2 : j + 1 - j / c * c = j % c + 1 := by omega
    have hl : j % c < (part zs c (j / c)).length := by rw [part_length h h1]; exact hml
    rw [e1, e2, take_snocD hl, sizeN_append, part_get hml, hdm]
    simp [sizeN]
  · rw [if_neg e, ← getD_getElem, ← getD_getElem, szP_get _ _ _ _ _ h1, szP_get _ _ _ _ _ h1]
    rcases Nat.lt_or_ge r (j / c) with e1 | e1
    · have h3 := Nat.mul_le_mul_right c (show r + 1 ≤ j / c from e1)
      rw [Nat.add_mul, Nat.one_mul] at h3
      rw [List.take_of_length_le (by rw [part_length h h1]; omega), List.take_of_length_le (by rw [part_length h h1]; omega)]
    · have h3 := Nat.mul_le_mul_right c (show j / c + 1 ≤ r by omega)
      rw [Nat.add_mul, Nat.one_mul] at h3
      rw [show j + 1 - r * c = 0 by omega, show j - r * c = 0 by omega]
theorem szP_bound {zs : List Int} {c R : Nat} (hz : ∀ z ∈ zs, C8 z) (hl : zs.length ≤ 1048576) (j r : Nat) : 0 ≤ (szP zs c R j).getD r 0 ∧ (szP zs c R j).getD r 0 ≤ 134217728 := by
  rcases Nat.lt_or_ge r R with e | e
  · rw [szP_get _ _ _ _ _ e]
    have h1 := sizeN_bound ((part zs c r).take (j - r * c)) (fun z hz' => hz z (part_mem (List.mem_of_mem_take hz')))
    have h2 : ((part zs c r).take (j - r * c)).length ≤ 1048576 := by
      unfold part
      rw [List.length_take, List.length_take, List.length_drop]
      omega
    omega
  · rw [List.getD_eq_getElem?_getD, List.getElem?_eq_none (by rw [szP_length]; exact e)]
    simp
/-- What Sizes answers. -/
def zL (w : List Int) (c : Int) : List Int := if mE w c = 0 then sizesN w c.toNat else []
theorem zL_bad {w : List Int} {c : Int} (h : mE w c ≠ 0) : zL w c = [] := if_neg h
theorem zL_len (w : List Int) (c : Int) : (zL w c).length ≤ 1048576 := by
  unfold zL
  split
  · rename_i h
    obtain ⟨hl, k, R, rfl, hk, hR⟩ := mE_zero h
    rw [sizesN_length]
    have := Nat.div_le_self w.length (k : Int).toNat
    omega
  · simp
theorem zL_i64 {w : List Int} (c : Int) (hw : ∀ z ∈ w, C8 z) : ∀ z ∈ zL w c, 0 ≤ z ∧ z ≤ 134217728 := by
  intro z hz
  unfold zL at hz
  split at hz
  · rename_i h
    obtain ⟨hl, k, R, rfl, hk, hR⟩ := mE_zero h
    obtain ⟨r, hr, rfl⟩ := List.mem_map.1 hz
    have h1 := sizeN_bound (part w (k : Int).toNat r) (fun z hz' => hw z (part_mem hz'))
    have h2 : (part w (k : Int).toNat r).length ≤ 1048576 := by
      unfold part
      rw [List.length_take, List.length_drop]
      omega
    omega
  · cases hz

set_option maxHeartbeats 4000000 in
set_option maxRecDepth 100000 in
theorem Sizes_any (p : Nat → Prop) (wv : Value) (zs : List Int) (c : Int) (w : World) (hw : Rk .i8 p w wv zs) (hc : I64 c) :
    Calls Tryd.prog 76 #[wv, zV c] w fun e w' => Gives .i64 2 (zL zs c) (mE zs c) w e w' := by
  obtain ⟨ao, ac, hva, _⟩ := hw.shape
  subst hva
  have hrows := rowsOf_any ao ac zs c w
  have HG : Hid (∀ (E : Int), Gives .i64 2 [] E w (.returned (.tuple #[.slice none 0 0, zV E])) w) := fun E => Gives.none _ _ _ _
  by_cases h0 : mE zs c = 0
  · obtain ⟨hm, k, R, rfl, hk, hR⟩ := mE_zero h0
    have hmR := (mE_ok hm hk hR).2
    rw [h0, hmR] at hrows
    have HR : Hid (Unit → _) := fun (_ : Unit) => hrows
    have hRz : R ≤ zs.length := by rw [hR]; exact Nat.le_mul_of_pos_right _ hk
    have HE : Hid (zL zs k = szP zs k R zs.length) := by
      show _ = _
      unfold zL
      rw [if_pos h0, szP_all hR hk]; rfl
    have HStep : Hid (∀ j, j < zs.length → j / k < R ∧ szP zs k R (j + 1) = (szP zs k R j).set (j / k) ((szP zs k R j).getD (j / k) 0 + ((zs.getD j 0).natAbs : Int))) := fun j hj => szP_step hR hk hj
    have HBd : Hid (∀ j r, 0 ≤ (szP zs k R j).getD r 0 ∧ (szP zs k R j).getD r 0 ≤ 134217728) := szP_bound hw.all hm
    have HZ8 : Hid (∀ j, C8 (zs.getD j 0)) := hw.get
    have hmk := run_mk ty64 R R (Nat.le_refl _) (by simp [kb]; omega) w
    have hO := own_made .i64 2 w w.heap.size (Nat.le_refl _) R R (Nat.le_refl _) (by omega)
    have hF0 : Fresh w (w.alloc (.cells ((List.replicate R (0 : Int)).map (Value.int .i64)).toArray 2)) := (Kept.refl _ w).alloc _
    generalize w.alloc (.cells ((List.replicate R (0 : Int)).map (Value.int .i64)).toArray 2) = W0 at *
    have HO : Hid (W0.ownsRow w.heap.size 2 1 (.slice (some ⟨w.heap.size, 0, none⟩) R R) R ((szP zs k R 0).map zV) ∧ Fresh w W0) := ⟨by rw [szP_zero]; exact hO, hF0⟩
    obtain ⟨n, hn⟩ : ∃ n, zs.length = n := ⟨_, rfl⟩
    rw [hn] at HR HE HStep hRz hm hw ⊢
    have HC : Hid (0 < n → ∃ b off, ao = some ⟨b, off, none⟩ ∧ ∀ W, Fresh w W → ∀ i, i < n → W.cell? ⟨b, off + i, none⟩ = some (.int .i8 (zs.getD i 0))) := fun hp => by
      obtain ⟨b, off, e, _, hb, hcell⟩ := hw.cells.2.2.2 hp
      exact ⟨b, off, e, fun W hF i hi => (hF.cell (p := ⟨b, off + i, none⟩) hb (fun e => e)).trans (hcell i hi)⟩
    have h5 : ¬ (k : Int) = 0 := by omega
    have HRR : Hid (w.heap.size = w.heap.size) := rfl
    rw [h0]
    clear hrows hw hR h0 hmR hO hF0 hn
    go_enter Tryd.func76, Tryd.ntmps76
    go_wp2_with fail
    refine (HR.out ()).mono ?_
    rintro e w1 ⟨rfl, hw1⟩
    have hw2 := hw1.symm
    subst hw2
    clear hw1 HR
    go_wp2
    clear hmk
    go_loopw [24] (fun iv wr => ∃ j : Nat, j ≤ n ∧ iv = zV j ∧ Hid (wr.ownsRow w.heap.size 2 1 (.slice (some ⟨w.heap.size, 0, none⟩) R R) R ((szP zs k R j).map zV) ∧ Fresh w wr)) (fun iv _ => n - (RowKit.intOf iv).toNat)
    case atStart => exact ⟨0, Nat.zero_le _, rfl, HO.out⟩
    case round =>
      obtain ⟨j, hj, rfl, HA⟩ := hrel
      clear HO
      by_cases hlt : j < n
      · obtain ⟨b, off, rfl, hcell⟩ := HC.out (by omega)
        have g1 := hcell wr HA.out.2 j hlt
        have hlt' : (j : Int) < (n : Int) := by omega
        obtain ⟨hq, hst⟩ := HStep.out j hlt
        obtain ⟨q, hqq⟩ : ∃ q, j / k = q := ⟨_, rfl⟩
        rw [hqq] at hq hst
        have hq' : (j : Int) / (k : Int) = (q : Int) := by rw [← hqq]; rfl
        have g2 := own_get HA.out.1 q hq
        have f2 := own_frozen HA.out.1 q
        obtain ⟨b0, b1⟩ := HBd.out j q
        have h8 := HZ8.out j
        obtain ⟨y, hy⟩ : ∃ y, y = (szP zs k R j).getD q 0 := ⟨_, rfl⟩
        obtain ⟨x, hx⟩ : ∃ x, x = zs.getD j 0 := ⟨_, rfl⟩
        rw [← hy] at g2 b0 b1 hst
        rw [← hx] at g1 h8 hst
        have HX : Hid ((wr.setCell ⟨w.heap.size, q, none⟩ (zV (y + (x.natAbs : Int)))).ownsRow w.heap.size 2 1 (.slice (some ⟨w.heap.size, 0, none⟩) R R) R ((szP zs k R (j + 1)).map zV) ∧ Fresh w (wr.setCell ⟨w.heap.size, q, none⟩ (zV (y + (x.natAbs : Int))))) := by
          refine ⟨?_, HA.out.2.setCell (fun e => absurd e (Nat.lt_irrefl _)) _⟩
          rw [hst, List.map_set]
          exact own_setB HA.out.1
        obtain ⟨x0, x1⟩ := h8
        have hnat : (x.natAbs : Int) = if x < -x then -x else x := by split <;> omega
        rw [hnat] at HX
        have m0 : 0 ≤ (if x < -x then -x else x) := by split <;> omega
        have m1 : (if x < -x then -x else x) ≤ 128 := by split <;> omega
        have hqR' : (q : Int) < (R : Int) := by omega
        have hkp : (0 : Int) < (k : Int) := by omega
        clear hcell hst hy hx HA hnat hqq
        go_wp2
        go_roundw
        case rel => exact ⟨j + 1, hlt, by go_num, HX.out⟩
        case measure => simp [RowKit.intOf]; omega
      · obtain rfl : j = n := by omega
        have HX : Hid (Gives .i64 2 (zL zs k) 0 w (.returned (.tuple #[.slice (some ⟨w.heap.size, 0, none⟩) R R, zV 0])) wr) := ⟨_, rfl, by rw [HE.out, szP_length]; exact HA.out.1, HA.out.2⟩
        clear HA HC
        go_wp2
        go_ret2
        exact HX.out
  · rw [zL_bad h0]
    have HR : Hid (Unit → _) := fun (_ : Unit) => hrows
    have h0' : (mE zs c == 0) = false := by simp [h0]
    clear hrows hw
    go_enter Tryd.func76, Tryd.ntmps76
    go_wp2_with fail
    refine (HR.out ()).mono ?_
    rintro e w1 ⟨rfl, hw1⟩
    have hw2 := hw1.symm
    subst hw2
    clear hw1 HR
    go_wp2
    go_ret2
    exact HG.out _

set_option maxHeartbeats 4000000 in
set_option maxRecDepth 100000 in
theorem refSizes_any (p : Nat → Prop) (wv : Value) (zs : List Int) (c : Int) (w : World) (hw : Rk .i8 p w wv zs) (hc : I64 c) :
    Calls Tryd.prog 89 #[wv, zV c] w fun e w' => Gives .i64 2 (zL zs c) (mE zs c) w e w' := by
  obtain ⟨ao, ac, hva, _⟩ := hw.shape
  subst hva
  have hrows := Matrix_any ao ac zs c w
  have HG : Hid (∀ (E : Int), Gives .i64 2 [] E w (.returned (.tuple #[.slice none 0 0, zV E])) w) := fun E => Gives.none _ _ _ _
  by_cases h0 : mE zs c = 0
  · obtain ⟨hm, k, R, rfl, hk, hR⟩ := mE_zero h0
    rw [h0] at hrows
    have HR : Hid (Unit → _) := fun (_ : Unit) => hrows
    have hRz : R ≤ zs.length := by rw [hR]; exact Nat.le_mul_of_pos_right _ hk
    have HE : Hid (zL zs k = (List.range R).map (fun r => sizeN (part zs k r))) := by
      show _ = _
      unfold zL
      rw [if_pos h0]
      exact sizesN_rows hR hk
    have HB : Hid (∀ r i, 0 ≤ sizeN ((part zs k r).take i) ∧ sizeN ((part zs k r).take i) ≤ 134217728) := fun r i => by
      have h1 := sizeN_bound ((part zs k r).take i) (fun z hz' => hw.all z (part_mem (List.mem_of_mem_take hz')))
      have h2 : ((part zs k r).take i).length ≤ 1048576 := by
        unfold part
        rw [List.length_take, List.length_take, List.length_drop]
        omega
      omega
    have HZ8 : Hid (∀ j, C8 (zs.getD j 0)) := hw.get
    have HO : Hid ((w.alloc (.cells #[] 2)).ownsRow w.heap.size 2 1 (.slice (some ⟨w.heap.size, 0, none⟩) 0 0) 0 [] ∧ Fresh w (w.alloc (.cells #[] 2))) := ⟨own_empty w _ (Nat.le_refl _) _, (Kept.refl _ w).alloc _⟩
    obtain ⟨n, hn⟩ : ∃ n, zs.length = n := ⟨_, rfl⟩
    have HL : Hid (n = R * k ∧ zs.length = n) := ⟨by omega, hn⟩
    rw [hn] at HR hRz hm hw ⊢
    have hcap := hw.cells.2.1
    have HC : Hid (0 < n → ∃ b off, ao = some ⟨b, off, none⟩ ∧ ∀ W, Fresh w W → ∀ i, i < n → W.cell? ⟨b, off + i, none⟩ = some (.int .i8 (zs.getD i 0))) := fun hp => by
      obtain ⟨b, off, e, _, hb, hcell⟩ := hw.cells.2.2.2 hp
      exact ⟨b, off, e, fun W hF i hi => (hF.cell (p := ⟨b, off + i, none⟩) hb (fun e => e)).trans (hcell i hi)⟩
    rw [h0]
    clear hrows hw hR h0 hn
    go_enter Tryd.func89, Tryd.ntmps89
    go_wp2_with fail
    refine (HR.out ()).mono ?_
    rintro e w1 ⟨rfl, hw1⟩
    have hw2 := hw1.symm
    subst hw2
    clear hw1 HR
    go_wp2
    go_loopw [7, 8] (fun ov iv wr => ∃ r m g cp : Nat, m ≤ n ∧ iv = zV m ∧ ov = .slice (some ⟨g, 0, none⟩) r cp ∧ Hid (m = r * k ∧ r ≤ R) ∧ Hid (wr.ownsRow w.heap.size 2 1 (.slice (some ⟨g, 0, none⟩) r cp) r ((((List.range R).map (fun r => sizeN (part zs k r))).take r).map zV) ∧ Fresh w wr)) (fun _ iv _ => n - (RowKit.intOf iv).toNat)
    case atStart => exact ⟨0, 0, w.heap.size, 0, Nat.zero_le _, rfl, rfl, ⟨(Nat.zero_mul k).symm, Nat.zero_le _⟩, HO.out⟩
    case round =>
      obtain ⟨r, m, g, cp, hmn, rfl, rfl, HM, HA⟩ := hrel
      clear HO
      by_cases hlt : m < n
      · have hrR : r < R := by
          rcases Nat.lt_or_ge r R with e | e
          · exact e
          · have h1 := HM.out
            have h2 := HL.out.1
            obtain rfl : r = R := by omega
            omega
        have hmk : m + k ≤ n := by
          have h1 := HM.out.1
          have h2 := HL.out.1
          have h3 := Nat.mul_le_mul_right k (show r + 1 ≤ R from hrR)
          rw [Nat.add_mul, Nat.one_mul] at h3
          omega
        obtain ⟨b, off, rfl, hcell⟩ := HC.out (by omega)
        have HCell : Hid (∀ i, i < k → wr.cell? ⟨b, off + m + i, none⟩ = some (.int .i8 (zs.getD (m + i) 0))) := fun i hi => by
          have := hcell wr HA.out.2 (m + i) (by omega)
          rw [Nat.add_assoc]; exact this
        have HStep : Hid (∀ i, i < k → sizeN ((part zs k r).take (i + 1)) = sizeN ((part zs k r).take i) + ((zs.getD (m + i) 0).natAbs : Int)) := fun i hi => by
          have hl : i < (part zs k r).length := by rw [part_length (by rw [HL.out.2]; exact HL.out.1) hrR]; exact hi
          rw [take_snocD hl, sizeN_append, part_get hi, ← HM.out.1]
          simp [sizeN]
        have HFull : Hid ((part zs k r).take k = part zs k r) := by
          show _ = _
          rw [List.take_of_length_le (by rw [part_length (by rw [HL.out.2]; exact HL.out.1) hrR]; exact Nat.le_refl _)]
        have hlt' : (m : Int) < (n : Int) := by omega
        have hmk' : (m : Int) + (k : Int) ≤ (n : Int) := by omega
        have hcm : ¬ ac = m := by omega
        have hmk2 : (m : Int) + (k : Int) ≤ (ac : Int) := by omega
        clear hcell
        go_wp2
        go_loopw [9, 33] (fun sv iv wx => ∃ i : Nat, i ≤ k ∧ iv = zV i ∧ sv = zV (sizeN ((part zs k r).take i)) ∧ wx = wr) (fun _ iv _ => k - (RowKit.intOf iv).toNat)
        case atStart => exact ⟨0, Nat.zero_le _, rfl, by simp [sizeN], rfl⟩
        case round =>
          obtain ⟨i, hi, rfl, rfl, rfl⟩ := hrel
          obtain ⟨s0, s1⟩ := HB.out r i
          by_cases hik : i < k
          · have g1 := HCell.out i hik
            have HS1 : Hid _ := HStep.out i hik
            obtain ⟨x0, x1⟩ := HZ8.out (m + i)
            have hik' : (i : Int) < (k : Int) := by omega
            generalize zs.getD (m + i) 0 = x at *
            generalize sizeN ((part zs k r).take i) = S at *
            by_cases hx : x < 0
            · have HS2 : Hid (sizeN ((part zs k r).take (i + 1)) = S - x) := by show _ = _; rw [HS1.out]; omega
              clear HS1 HCell HStep HC HA
              go_wp2
              go_roundw
              case rel => exact ⟨i + 1, hik, by go_num, by rw [HS2.out], trivial⟩
              case measure => simp [RowKit.intOf]; omega
            · have HS2 : Hid (sizeN ((part zs k r).take (i + 1)) = S + x) := by show _ = _; rw [HS1.out]; omega
              clear HS1 HCell HStep HC HA
              go_wp2
              go_roundw
              case rel => exact ⟨i + 1, hik, by go_num, by rw [HS2.out], trivial⟩
              case measure => simp [RowKit.intOf]; omega
          · obtain rfl : i = k := by omega
            rw [HFull.out] at s0 s1 ⊢
            obtain ⟨ga, ca, Wa, hra, hoa, hga, hka⟩ := push ty64 wr w.heap.size g cp r (((List.range R).map (fun r => sizeN (part zs i r))).take r) (sizeN (part zs i r)) HA.out.1 (by simp [kb]; omega) HA.out.2.size
            have hgb := (own_block HA.out.1).1
            have HN1 : Hid (Wa.ownsRow w.heap.size 2 1 (.slice (some ⟨ga, 0, none⟩) (r + 1) ca) (r + 1) ((((List.range R).map (fun r => sizeN (part zs i r))).take (r + 1)).map zV) ∧ Fresh w Wa) := ⟨by rw [range_take _ hrR]; exact hoa, HA.out.2.trans hka (fun j hj e => by omega)⟩
            have HM1 : Hid (m + i = (r + 1) * i ∧ r + 1 ≤ R) := ⟨by rw [Nat.add_mul, Nat.one_mul, HM.out.1], hrR⟩
            generalize sizeN (part zs i r) = S at *
            clear hoa hga hka HA HM HCell HStep HC HB
            go_wp2_with (at_builtin; refine Lib.wpList_append_run _ rfl _ _ _ _ rfl _ _ rfl rfl _ _ hra ?_)
            go_roundw
            case rel => exact ⟨r + 1, m + i, ga, ca, hmk, by go_num, rfl, HM1.out, HN1.out⟩
            case measure => simp [RowKit.intOf]; omega
      · obtain rfl : m = n := by omega
        have hrR : r = R := by
          have h1 := HM.out
          have h2 := HL.out.1
          rcases Nat.lt_or_ge r R with e | e
          · have h3 := Nat.mul_le_mul_right k (show r + 1 ≤ R from e)
            rw [Nat.add_mul, Nat.one_mul] at h3
            omega
          · omega
        subst hrR
        have HX : Hid (Gives .i64 2 (zL zs k) 0 w (.returned (.tuple #[.slice (some ⟨g, 0, none⟩) r cp, zV 0])) wr) := by
          refine ⟨_, rfl, ?_, HA.out.2⟩
          have := HA.out.1
          rw [List.take_of_length_le (by simp)] at this
          rw [HE.out]
          simpa using this
        clear HA HC HM
        go_wp2
        go_ret2
        exact HX.out
  · rw [zL_bad h0]
    have HR : Hid (Unit → _) := fun (_ : Unit) => hrows
    have h0' : (mE zs c == 0) = false := by simp [h0]
    clear hrows hw
    go_enter Tryd.func89, Tryd.ntmps89
    go_wp2_with fail
    refine (HR.out ()).mono ?_
    rintro e w1 ⟨rfl, hw1⟩
    have hw2 := hw1.symm
    subst hw2
    clear hw1 HR
    go_wp2
    go_ret2
    exact HG.out _
end Go.Proofs.YtakiimjldccgcabDoor
