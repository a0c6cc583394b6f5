/-
  Sloped: the package's and the document's.
-/
import Derived.Test.YtohoppnpbgplnabDoorSfa
import Derived.Test.YtohoppnpbgplnabDoorSfb
namespace Go.Proofs.YtohoppnpbgplnabDoor
open Go.RowKit Go.Lib Go.Maps

theorem Gives.from {k : IntKind} {e : TypeId} {L : List Int} {E : Int} {w wr w' : World} {x : Ending} (h : Gives k e L E wr x w') (hF : Fresh w wr) : Gives k e L E w x w' := by
  obtain ⟨v, h1, h2, h3⟩ := h
  exact ⟨v, h1, own_low h2 hF.size, hF.trans h3 (fun _ _ e => e)⟩
/-- Scores that may be sloped. -/
def inW (zs : List Int) : Bool := zs.all (fun z => decide (-1099511627776 ≤ z ∧ z ≤ 1099511627776))
theorem inW_not {zs : List Int} {i : Nat} (hi : i < zs.length) (h : zs.getD i 0 < -1099511627776 ∨ 1099511627776 < zs.getD i 0) : inW zs = false := by
  rw [getD_getElem hi] at h
  unfold inW
  rw [List.all_eq_false]
  exact ⟨_, List.getElem_mem hi, by simp only [decide_eq_true_eq]; omega⟩
theorem inW_of {zs : List Int} (h : ∀ i, i < zs.length → -1099511627776 ≤ zs.getD i 0 ∧ zs.getD i 0 ≤ 1099511627776) : inW zs = true := by
  unfold inW
  rw [List.all_eq_true]
  intro z hz
  obtain ⟨i, hi, rfl⟩ := List.getElem_of_mem hz
  rw [← getD_getElem hi]
  exact decide_eq_true (h i hi)
def slF (zs : List Int) (s : Int) (n i : Nat) : Int := zs.getD i 0 - s * ((n : Int) - 1 - (i : Int))
def slL (zs : List Int) (s : Int) : List Int := mkL zs.length (slF zs s zs.length)
def soE (zs : List Int) (s : Int) : Int := if (zs.length < 1 ∨ 512 < zs.length) ∨ s < 0 ∨ 1048576 < s ∨ inW zs = false then 1 else 0
def soL (zs : List Int) (s : Int) : List Int := if soE zs s = 0 then wL (slL zs s) else []
theorem slL_len (zs : List Int) (s : Int) : (slL zs s).length = zs.length := mkL_len _ _
theorem soE_bad {zs : List Int} {s : Int} (h : (zs.length < 1 ∨ 512 < zs.length) ∨ s < 0 ∨ 1048576 < s ∨ inW zs = false) : soE zs s = 1 ∧ soL zs s = [] := by
  have : soE zs s = 1 := if_pos h
  exact ⟨this, if_neg (by rw [this]; decide)⟩
theorem soE_ok {zs : List Int} {s : Int} (h1 : 1 ≤ zs.length) (h2 : zs.length ≤ 512) (h3 : 0 ≤ s) (h4 : s ≤ 1048576) (h5 : inW zs = true) : soE zs s = 0 ∧ soL zs s = wL (slL zs s) := by
  have : soE zs s = 0 := by
    refine if_neg ?_
    rintro ((a | a) | a | a | a) <;> first | omega | (rw [h5] at a; cases a)
  exact ⟨this, if_pos this⟩
theorem soL_len (zs : List Int) (s : Int) : (soL zs s).length ≤ 512 := by
  unfold soL
  split
  · rename_i h
    rw [wL_len, slL_len]
    unfold soE at h
    split at h
    · cases h
    · omega
  · simp
theorem soL_fit (zs : List Int) (s : Int) : ∀ z ∈ soL zs s, Fit .i64 z := fun z hz => by
  unfold soL at hz
  split at hz
  · have := wL_mem hz
    exact ⟨by omega, by omega⟩
  · cases hz
theorem sl_mul {s : Int} {n j : Nat} (h3 : 0 ≤ s) (h4 : s ≤ 1048576) (hj : j < n) (hn : n ≤ 512) : 0 ≤ s * ((n : Int) - 1 - (j : Int)) ∧ s * ((n : Int) - 1 - (j : Int)) ≤ 1048576 * 512 := by
  have h0 : 0 ≤ (n : Int) - 1 - (j : Int) := by omega
  refine ⟨Int.mul_nonneg h3 h0, Int.mul_le_mul h4 (by omega) h0 (by omega)⟩
theorem sl_fit {zs : List Int} {s : Int} {n j : Nat} (h3 : 0 ≤ s) (h4 : s ≤ 1048576) (hj : j < n) (hn : n ≤ 512) (hz : -1099511627776 ≤ zs.getD j 0 ∧ zs.getD j 0 ≤ 1099511627776) : I64 (slF zs s n j) := by
  have := sl_mul h3 h4 hj hn
  unfold slF
  exact ⟨by omega, by omega⟩

set_option maxHeartbeats 4000000 in
set_option maxRecDepth 100000 in
theorem Sloped_any (p : Nat → Prop) (v : Value) (zs : List Int) (s : Int) (w : World) (hB : Bend w) (h : Rk .i64 p w v zs) (hs : I64 s) :
    Calls Tryd.prog 15 #[v, zV s] w fun e w' => Gives .i64 2 (soL zs s) (soE zs s) w e w' := by
  have HS : Hid (Unit → _) := fun (_ : Unit) => seen_any p v zs w h
  have HG0 : Hid (∀ W, Fresh w W → Gives .i64 2 [] 1 w (.returned (.tuple #[.slice none 0 0, zV 1])) W) := fun W hF => ⟨_, rfl, own_nil _ _ _, hF⟩
  have hmany := h.many
  obtain ⟨s0, s1⟩ := hs
  by_cases hk : 1 ≤ zs.length ∧ zs.length ≤ 512
  · rw [decide_eq_true hk] at HS
    obtain ⟨k1, k2⟩ := hk
    by_cases c0 : s < 0
    · obtain ⟨e1, e2⟩ := soE_bad (zs := zs) (s := s) (.inr (.inl c0))
      rw [e1, e2]
      obtain ⟨ao, ac, rfl, _⟩ := h.shape
      clear h hB e1 e2
      go_enter Tryd.func15, Tryd.ntmps15
      go_wp2_with fail
      refine (HS.out ()).mono ?_
      rintro e w1 ⟨rfl, hw1⟩
      have hw2 := hw1.symm
      subst hw2
      clear hw1 HS
      go_wp2
      go_ret2
      exact HG0.out _ (Kept.refl _ _)
    · by_cases c1 : 1048576 < s
      · obtain ⟨e1, e2⟩ := soE_bad (zs := zs) (s := s) (.inr (.inr (.inl c1)))
        rw [e1, e2]
        obtain ⟨ao, ac, rfl, _⟩ := h.shape
        clear h hB e1 e2
        go_enter Tryd.func15, Tryd.ntmps15
        go_wp2_with fail
        refine (HS.out ()).mono ?_
        rintro e w1 ⟨rfl, hw1⟩
        have hw2 := hw1.symm
        subst hw2
        clear hw1 HS
        go_wp2
        go_ret2
        exact HG0.out _ (Kept.refl _ _)
      · have HNo : Hid (∀ i, i < zs.length → zs.getD i 0 < -1099511627776 ∨ 1099511627776 < zs.getD i 0 → soE zs s = 1 ∧ soL zs s = []) := fun i hi he => soE_bad (.inr (.inr (.inr (inW_not hi he))))
        have HYes : Hid ((∀ i, i < zs.length → -1099511627776 ≤ zs.getD i 0 ∧ zs.getD i 0 ≤ 1099511627776) → soE zs s = 0 ∧ soL zs s = wL (slL zs s)) := fun ha => soE_ok k1 k2 (by omega) (by omega) (inW_of ha)
        have HWt : Hid (∀ W X, Fresh w W → Fil .i64 2 w zs.length (slF zs s zs.length) zs.length W → (∀ i, i < zs.length → -1099511627776 ≤ zs.getD i 0 ∧ zs.getD i 0 ≤ 1099511627776) → X = W → Calls Tryd.prog 26 #[.slice (some ⟨w.heap.size, 0, none⟩) zs.length zs.length] X fun e w' => ∃ v', e = .returned v' ∧ Gives .i64 2 (wL (slL zs s)) 0 w (.returned (.tuple #[v', zV 0])) w') := fun W X hF hf ha hX => by
          subst hX
          have hd := hf.1
          rw [Nat.sub_self, List.replicate_zero, List.append_nil] at hd
          have hR := rk_of_own (k := .i64) (zs := slL zs s) hd (by rw [slL_len]; simp [kb]; omega) (fun z hz => by
            obtain ⟨i, hi, rfl⟩ := mkL_mem hz
            exact sl_fit (by omega) (by omega) hi k2 (ha i hi))
          have := weights_any _ _ (slL zs s) X (hB.fresh hF) hR (by rw [slL_len]; exact k1) (by rw [slL_len]; exact k2)
          refine this.mono ?_
          rintro e w' ⟨rfl, hf'⟩
          refine ⟨_, rfl, ?_⟩
          exact Gives.from (Fil.done hf' 0) hF
        obtain ⟨ao, ac, rfl, _⟩ := h.shape
        have HG : Hid (∀ i, I64 (zs.getD i 0)) := fun i => h.get i
        have HC1 : Hid _ := h.stay
        have HMul : Hid (∀ j, j < zs.length → 0 ≤ s * ((zs.length : Int) - 1 - (j : Int)) ∧ s * ((zs.length : Int) - 1 - (j : Int)) ≤ 1048576 * 512 ∧ slF zs s zs.length j = zs.getD j 0 - s * ((zs.length : Int) - 1 - (j : Int))) := fun j hj => by
          obtain ⟨a, b⟩ := sl_mul (s := s) (n := zs.length) (j := j) (by omega) (by omega) hj k2
          exact ⟨a, b, rfl⟩
        generalize soE zs s = E at *
        generalize soL zs s = L at *
        generalize hn : zs.length = n at *
        have HFil := Fil.start (k := .i64) (e := 2) w n (slF zs s n) (by omega)
        have hmk := run_mk ty64 n n (Nat.le_refl _) (by simp [kb]; omega) w
        clear h hB hn
        generalize w.alloc (.cells ((List.replicate n (0 : Int)).map (Value.int .i64)).toArray 2) = W0 at *
        have HW0 : Hid (Fil .i64 2 w n (slF zs s n) 0 W0) := HFil
        clear HFil
        go_enter Tryd.func15, Tryd.ntmps15
        go_wp2_with fail
        refine (HS.out ()).mono ?_
        rintro e w1 ⟨rfl, hw1⟩
        have hw2 := hw1.symm
        subst hw2
        clear hw1 HS
        go_wp2
        clear hmk
        go_loopw [25] (fun iv wr => ∃ j : Nat, j ≤ n ∧ iv = zV j ∧ Hid (Fil .i64 2 w n (slF zs s n) j wr ∧ ∀ i, i < j → -1099511627776 ≤ zs.getD i 0 ∧ zs.getD i 0 ≤ 1099511627776)) (fun iv _ => n - (RowKit.intOf iv).toNat)
        case atStart => exact ⟨0, Nat.zero_le _, rfl, HW0.out, fun i hi => absurd hi (Nat.not_lt_zero _)⟩
        case round =>
          obtain ⟨j, hj, rfl, HA⟩ := hrel
          clear HW0
          by_cases hlt : j < n
          · obtain ⟨b, off, rfl, hcell⟩ := HC1.out (by omega)
            have g1 := hcell wr HA.out.1.2 j hlt
            have hlt' : (j : Int) < (n : Int) := by omega
            have f3 := own_frozen HA.out.1.1 j
            have g3 := own_get HA.out.1.1 j hlt
            obtain ⟨m0, m1, hsl⟩ := HMul.out j hlt
            obtain ⟨x0, x1⟩ := HG.out j
            have HGG : Hid _ := HG0.out wr HA.out.1.2
            have HN' : Hid _ := HNo.out j hlt
            have HXX : Hid (-1099511627776 ≤ zs.getD j 0 ∧ zs.getD j 0 ≤ 1099511627776 → Fil .i64 2 w n (slF zs s n) (j + 1) (wr.setCell ⟨w.heap.size, j, none⟩ (.int .i64 (slF zs s n j))) ∧ ∀ i, i < j + 1 → -1099511627776 ≤ zs.getD i 0 ∧ zs.getD i 0 ≤ 1099511627776) := fun hz => ⟨HA.out.1.next hlt, fun i hi => by
              by_cases e : i = j
              · subst e; exact hz
              · exact HA.out.2 i (by omega)⟩
            rw [hsl] at HXX
            clear hcell HC1 HMul HG HG0 HNo HYes HWt HA hsl
            generalize zs.getD j 0 = x at *
            obtain ⟨P, hP⟩ : ∃ P, s * ((n : Int) - 1 - (j : Int)) = P := ⟨_, rfl⟩
            rw [hP] at m0 m1 HXX
            by_cases d0 : x < -1099511627776
            · obtain ⟨e1, e2⟩ := HN'.out (.inl d0)
              subst e1
              subst e2
              go_wp2
              go_ret2
              exact HGG.out
            · by_cases d1 : 1099511627776 < x
              · obtain ⟨e1, e2⟩ := HN'.out (.inr d1)
                subst e1
                subst e2
                go_wp2
                go_ret2
                exact HGG.out
              · have HX2 : Hid _ := HXX.out ⟨by omega, by omega⟩
                clear HXX HN' HGG
                go_wp2
                go_roundw
                case rel => exact ⟨j + 1, hlt, by go_num, HX2.out⟩
                case measure => simp [RowKit.intOf]; omega
          · obtain rfl : j = n := by omega
            obtain ⟨e1, e2⟩ := HYes.out HA.out.2
            subst e1
            subst e2
            have HCall : Hid (Unit → _) := fun (_ : Unit) => HWt.out wr wr HA.out.1.2 HA.out.1 HA.out.2 rfl
            clear HYes HNo HMul HG HG0 HC1 HWt HA
            go_wp2_with fail
            refine (HCall.out ()).mono ?_
            rintro e w5 ⟨v5, rfl, hG5⟩
            have HG5 : Hid _ := hG5
            clear hG5 HCall
            go_wp2
            go_ret2
            exact HG5.out
  · rw [decide_eq_false hk] at HS
    obtain ⟨e1, e2⟩ := soE_bad (zs := zs) (s := s) (.inl (by omega))
    rw [e1, e2]
    obtain ⟨ao, ac, rfl, _⟩ := h.shape
    clear h hB e1 e2
    go_enter Tryd.func15, Tryd.ntmps15
    go_wp2_with fail
    refine (HS.out ()).mono ?_
    rintro e w1 ⟨rfl, hw1⟩
    have hw2 := hw1.symm
    subst hw2
    clear hw1 HS
    go_wp2
    go_ret2
    exact HG0.out _ (Kept.refl _ _)

set_option maxHeartbeats 4000000 in
set_option maxRecDepth 100000 in
theorem refSloped_any (p : Nat → Prop) (v : Value) (zs : List Int) (s : Int) (w : World) (h : Rk .i64 p w v zs) (hs : I64 s) :
    Calls Tryd.prog 16 #[v, zV s] w fun e w' => Gives .i64 2 (soL zs s) (soE zs s) w e w' := by
  have HEm : Hid (∀ W, Fresh w W → Gives .i64 2 [] 1 w (.returned (.tuple #[.slice (some ⟨W.heap.size, 0, none⟩) 0 0, zV 1])) (W.alloc (.cells #[] 2))) := fun W hF => Gives_empty .i64 2 1 hF
  have hmany := h.many
  obtain ⟨s0, s1⟩ := hs
  by_cases hk : 1 ≤ zs.length ∧ zs.length ≤ 512
  · obtain ⟨k1, k2⟩ := hk
    have k1' : (1 : Int) ≤ (zs.length : Int) := by omega
    have k2' : (zs.length : Int) ≤ 512 := by omega
    by_cases c0 : s < 0
    · obtain ⟨e1, e2⟩ := soE_bad (zs := zs) (s := s) (.inr (.inl c0))
      rw [e1, e2]
      obtain ⟨ao, ac, rfl, _⟩ := h.shape
      have HX : Hid _ := HEm.out w (Kept.refl _ _)
      clear h e1 e2 HEm
      generalize zs.length = n at *
      go_enter Tryd.func16, Tryd.ntmps16
      go_wp2
      go_ret2
      exact HX.out
    · by_cases c1 : 1048576 < s
      · obtain ⟨e1, e2⟩ := soE_bad (zs := zs) (s := s) (.inr (.inr (.inl c1)))
        rw [e1, e2]
        obtain ⟨ao, ac, rfl, _⟩ := h.shape
        have HX : Hid _ := HEm.out w (Kept.refl _ _)
        clear h e1 e2 HEm
        generalize zs.length = n at *
        go_enter Tryd.func16, Tryd.ntmps16
        go_wp2
        go_ret2
        exact HX.out
      · have HNo : Hid (∀ i, i < zs.length → zs.getD i 0 < -1099511627776 ∨ 1099511627776 < zs.getD i 0 → soE zs s = 1 ∧ soL zs s = []) := fun i hi he => soE_bad (.inr (.inr (.inr (inW_not hi he))))
        have HYes : Hid ((∀ i, i < zs.length → -1099511627776 ≤ zs.getD i 0 ∧ zs.getD i 0 ≤ 1099511627776) → soE zs s = 0 ∧ soL zs s = wL (slL zs s)) := fun ha => soE_ok k1 k2 (by omega) (by omega) (inW_of ha)
        have HWt : Hid (∀ W g c, Grw .i64 2 w (slF zs s zs.length) zs.length g c W → (∀ i, i < zs.length → -1099511627776 ≤ zs.getD i 0 ∧ zs.getD i 0 ≤ 1099511627776) → Calls Tryd.prog 6 #[.slice (some ⟨g, 0, none⟩) zs.length c] W fun e w' => Gives .i64 2 (wL (slL zs s)) 0 w e w') := fun W g c hf ha => by
          have hR := rk_of_own (k := .i64) (zs := slL zs s) hf.1 (by rw [slL_len]; simp [kb]; omega) (fun z hz => by
            obtain ⟨i, hi, rfl⟩ := mkL_mem hz
            exact sl_fit (by omega) (by omega) hi k2 (ha i hi))
          have := refWeights_any _ _ (slL zs s) W hR
          rw [woL_ok (by rw [slL_len]; exact k1) (by rw [slL_len]; exact k2), wE_ok (by rw [slL_len]; exact k1) (by rw [slL_len]; exact k2)] at this
          exact this.mono fun e w' hG => Gives.from hG hf.2
        obtain ⟨ao, ac, rfl, _⟩ := h.shape
        have HG : Hid (∀ i, I64 (zs.getD i 0)) := fun i => h.get i
        have HC1 : Hid _ := h.stay
        have HMul : Hid (∀ j, j < zs.length → 0 ≤ s * ((zs.length : Int) - 1 - (j : Int)) ∧ s * ((zs.length : Int) - 1 - (j : Int)) ≤ 1048576 * 512 ∧ slF zs s zs.length j = zs.getD j 0 - s * ((zs.length : Int) - 1 - (j : Int))) := fun j hj => by
          obtain ⟨a, b⟩ := sl_mul (s := s) (n := zs.length) (j := j) (by omega) (by omega) hj k2
          exact ⟨a, b, rfl⟩
        generalize soE zs s = E at *
        generalize soL zs s = L at *
        generalize hn : zs.length = n at *
        have hS : Hid (Grw .i64 2 w (slF zs s n) 0 w.heap.size 0 (w.alloc (.cells #[] 2))) := Grw.start _ (Kept.refl _ _)
        clear h hn
        generalize hW0 : w.alloc (.cells #[] 2) = W0 at *
        go_enter Tryd.func16, Tryd.ntmps16
        go_wp2
        clear hW0
        go_loopw [6, 7] (fun ov iv wr => ∃ j g c : Nat, j ≤ n ∧ iv = zV j ∧ ov = .slice (some ⟨g, 0, none⟩) j c ∧ Hid (Grw .i64 2 w (slF zs s n) j g c wr ∧ ∀ i, i < j → -1099511627776 ≤ zs.getD i 0 ∧ zs.getD i 0 ≤ 1099511627776)) (fun _ iv _ => n - (RowKit.intOf iv).toNat)
        case atStart => exact ⟨0, _, _, Nat.zero_le _, rfl, rfl, hS.out, fun i hi => absurd hi (Nat.not_lt_zero _)⟩
        case round =>
          obtain ⟨j, og, oc, hj, rfl, rfl, HA⟩ := hrel
          clear hS
          by_cases hlt : j < n
          · obtain ⟨b, off, rfl, hcell⟩ := HC1.out (by omega)
            have g1 := hcell wr HA.out.1.2 j hlt
            have hlt' : (j : Int) < (n : Int) := by omega
            obtain ⟨m0, m1, hsl⟩ := HMul.out j hlt
            obtain ⟨x0, x1⟩ := HG.out j
            have HGG : Hid _ := HEm.out wr HA.out.1.2
            have HN' : Hid _ := HNo.out j hlt
            obtain ⟨g', c', X', hr1, hGr⟩ := HA.out.1.push ty64 (by simp [kb]; omega)
            rw [hsl] at hr1
            have HXX : Hid (-1099511627776 ≤ zs.getD j 0 ∧ zs.getD j 0 ≤ 1099511627776 → Grw .i64 2 w (slF zs s n) (j + 1) g' c' X' ∧ ∀ i, i < j + 1 → -1099511627776 ≤ zs.getD i 0 ∧ zs.getD i 0 ≤ 1099511627776) := fun hz => ⟨hGr, fun i hi => by
              by_cases e : i = j
              · subst e; exact hz
              · exact HA.out.2 i (by omega)⟩
            clear hcell HC1 HMul HG HEm HNo HYes HWt HA hsl hGr
            generalize zs.getD j 0 = x at *
            obtain ⟨P, hP⟩ : ∃ P, s * ((n : Int) - 1 - (j : Int)) = P := ⟨_, rfl⟩
            rw [hP] at m0 m1 hr1
            by_cases d0 : x < -1099511627776
            · obtain ⟨e1, e2⟩ := HN'.out (.inl d0)
              subst e1
              subst e2
              clear hr1
              go_wp2
              go_ret2
              exact HGG.out
            · by_cases d1 : 1099511627776 < x
              · obtain ⟨e1, e2⟩ := HN'.out (.inr d1)
                subst e1
                subst e2
                clear hr1
                go_wp2
                go_ret2
                exact HGG.out
              · have HX2 : Hid _ := HXX.out ⟨by omega, by omega⟩
                clear HXX HN' HGG
                go_wp2_with (at_builtin; refine Lib.wpList_append_run _ rfl _ _ _ _ rfl _ _ rfl rfl _ _ hr1 ?_)
                go_roundw
                case rel => exact ⟨j + 1, g', c', hlt, by go_num, rfl, HX2.out⟩
                case measure => simp [RowKit.intOf]; omega
          · obtain rfl : j = n := by omega
            obtain ⟨e1, e2⟩ := HYes.out HA.out.2
            subst e1
            subst e2
            have HCall : Hid (Unit → _) := fun (_ : Unit) => HWt.out wr og oc HA.out.1 HA.out.2
            clear HYes HNo HMul HG HEm HC1 HWt HA
            go_wp2_with fail
            refine (HCall.out ()).mono ?_
            rintro e w5 hG5
            obtain ⟨v5, rfl, h5⟩ := hG5
            have HG5 : Hid (Gives .i64 2 (wL (slL zs s)) 0 w (.returned (.tuple #[v5, zV 0])) w5) := ⟨v5, rfl, h5⟩
            clear h5 HCall
            go_wp2
            go_ret2
            exact HG5.out
  · obtain ⟨e1, e2⟩ := soE_bad (zs := zs) (s := s) (.inl (by omega))
    rw [e1, e2]
    obtain ⟨ao, ac, rfl, _⟩ := h.shape
    have HX : Hid _ := HEm.out w (Kept.refl _ _)
    clear h e1 e2 HEm
    generalize zs.length = n at *
    by_cases h0 : n = 0
    · subst h0
      go_enter Tryd.func16, Tryd.ntmps16
      go_wp2
      go_ret2
      exact HX.out
    · have k1' : (512 : Int) < (n : Int) := by omega
      clear hk h0
      go_enter Tryd.func16, Tryd.ntmps16
      go_wp2
      go_ret2
      exact HX.out
end Go.Proofs.YtohoppnpbgplnabDoor
