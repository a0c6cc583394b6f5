/-
  Mix: the package's and the document's.
-/
import Derived.Test.YtohoppnpbgplnabDoorSfc
import Derived.Test.YtohoppnpbgplnabDoorFwg
import Derived.Test.YtohoppnpbgplnabDoorGrw
import Derived.BigQuiet
namespace Go.Proofs.YtohoppnpbgplnabDoor
open Go.RowKit Go.Lib Go.Maps

def miE (a b : List Int) (p : Int) : Int := if a.length ≠ b.length ∨ 512 < a.length ∨ p < 0 ∨ 65536 < p then 1 else if okW a = false ∨ okW b = false then 110 else 0
def miF (a b : List Int) (p : Int) (i : Nat) : Int := ((65536 - p) * a.getD i 0 + p * b.getD i 0) / 65536
def miL (a b : List Int) (p : Int) : List Int := if miE a b p = 0 then mkL a.length (miF a b p) else []
theorem mi_arg {a b : List Int} {p : Int} (h : a.length ≠ b.length ∨ 512 < a.length ∨ p < 0 ∨ 65536 < p) : miE a b p = 1 ∧ miL a b p = [] := by
  have e : miE a b p = 1 := if_pos h
  exact ⟨e, if_neg (by rw [e]; decide)⟩
theorem mi_mean {a b : List Int} {p : Int} (h1 : a.length = b.length) (h2 : a.length ≤ 512) (h3 : 0 ≤ p) (h4 : p ≤ 65536) (h : okW a = false ∨ okW b = false) : miE a b p = 110 ∧ miL a b p = [] := by
  have e : miE a b p = 110 := by unfold miE; rw [if_neg (by omega), if_pos h]
  exact ⟨e, if_neg (by rw [e]; decide)⟩
theorem mi_ok {a b : List Int} {p : Int} (h1 : a.length = b.length) (h2 : a.length ≤ 512) (h3 : 0 ≤ p) (h4 : p ≤ 65536) (ha : okW a = true) (hb : okW b = true) : miE a b p = 0 ∧ miL a b p = mkL a.length (miF a b p) := by
  have e : miE a b p = 0 := by
    unfold miE
    rw [if_neg (by omega), if_neg]
    rintro (e | e)
    · rw [ha] at e; cases e
    · rw [hb] at e; cases e
  exact ⟨e, if_pos e⟩
theorem mi_mul {p x y : Int} (h3 : 0 ≤ p) (h4 : p ≤ 65536) (hx : 0 ≤ x ∧ x ≤ 1073741824) (hy : 0 ≤ y ∧ y ≤ 1073741824) : (0 ≤ (65536 - p) * x ∧ (65536 - p) * x ≤ 70368744177664) ∧ (0 ≤ p * y ∧ p * y ≤ 70368744177664) := by
  have a := mul_bound (show 0 ≤ 65536 - p by omega) (show 65536 - p ≤ 65536 by omega) hx.1 hx.2
  have b := mul_bound h3 h4 hy.1 hy.2
  exact ⟨⟨a.1, by omega⟩, b.1, by omega⟩
theorem miL_len (a b : List Int) (p : Int) : (miL a b p).length ≤ 512 := by
  by_cases h : miE a b p = 0
  · have : miL a b p = mkL a.length (miF a b p) := if_pos h
    rw [this, mkL_len]
    unfold miE at h
    split at h
    · cases h
    · omega
  · have : miL a b p = [] := if_neg h
    rw [this]; simp
theorem miE_zero {a b : List Int} {p : Int} (h : miE a b p = 0) : (a.length = b.length ∧ a.length ≤ 512 ∧ 0 ≤ p ∧ p ≤ 65536) ∧ okW a = true ∧ okW b = true := by
  unfold miE at h
  split at h
  · cases h
  · split at h
    · cases h
    · rename_i h1 h2
      refine ⟨by omega, ?_, ?_⟩
      · cases hk : okW a
        · exact absurd (.inl hk) h2
        · rfl
      · cases hk : okW b
        · exact absurd (.inr hk) h2
        · rfl
theorem miL_mem {a b : List Int} {p : Int} {z : Int} (hz : z ∈ miL a b p) : 0 ≤ z ∧ z ≤ 2147483648 := by
  by_cases h : miE a b p = 0
  · have e : miL a b p = mkL a.length (miF a b p) := if_pos h
    rw [e] at hz
    obtain ⟨⟨_, _, h3, h4⟩, ha, hb⟩ := miE_zero h
    obtain ⟨i, _, rfl⟩ := mkL_mem hz
    have := mi_mul h3 h4 (okW_get ha i) (okW_get hb i)
    unfold miF
    omega
  · have e : miL a b p = [] := if_neg h
    rw [e] at hz; cases hz
theorem miL_fit (a b : List Int) (p : Int) : ∀ z ∈ miL a b p, Fit .i64 z := fun z hz => by
  have := miL_mem hz
  exact ⟨by omega, by omega⟩

set_option maxHeartbeats 1000000 in
set_option maxRecDepth 100000 in
theorem weighs_any (p : Nat → Prop) (v : Value) (zs : List Int) (w : World) (h : Rk .i64 p w v zs) :
    Calls Tryd.prog 33 #[v] w fun e w' => e = .returned (.bool (okW zs)) ∧ w' = w := by
  obtain ⟨ao, ac, rfl, _⟩ := h.shape
  have hm := h.many
  have HG : Hid (∀ i, I64 (zs.getD i 0)) := fun i => h.get i
  obtain ⟨_, _, _, hc⟩ := h.cells
  have HN : Hid (∀ i, i < zs.length → zs.getD i 0 < 0 ∨ 1073741824 < zs.getD i 0 → okW zs = false) := fun i hi => okW_not hi
  have HO : Hid ((∀ i, i < zs.length → 0 ≤ zs.getD i 0 ∧ zs.getD i 0 ≤ 1073741824) → okW zs = true) := okW_all
  generalize zs.length = n at *
  have HC : Hid _ := hc
  clear h hc
  generalize okW zs = O at *
  go_enter Tryd.func33, Tryd.ntmps33
  go_wp2
  go_loop [3] (fun iv => ∃ j : Nat, j ≤ n ∧ iv = zV j ∧ Hid (∀ i, i < j → 0 ≤ zs.getD i 0 ∧ zs.getD i 0 ≤ 1073741824)) (fun iv => n - (RowKit.intOf iv).toNat)
  case atStart => exact ⟨0, Nat.zero_le _, rfl, fun i hi => absurd hi (Nat.not_lt_zero _)⟩
  case round =>
    obtain ⟨j, hj, rfl, HA⟩ := hrel
    by_cases hlt : j < n
    · obtain ⟨b, off, rfl, _, _, hcell⟩ := HC.out (by omega)
      have g1 := hcell j hlt
      have hlt' : (j : Int) < (n : Int) := by omega
      have HB : Hid (0 ≤ zs.getD j 0 ∧ zs.getD j 0 ≤ 1073741824 → ∀ i, i < j + 1 → 0 ≤ zs.getD i 0 ∧ zs.getD i 0 ≤ 1073741824) := fun hz i hi => by
        by_cases e : i = j
        · subst e; exact hz
        · exact HA.out i (by omega)
      have HN' : Hid _ := HN.out j hlt
      obtain ⟨x0, x1⟩ := HG.out j
      clear hcell HC HN HA HG HO
      generalize zs.getD j 0 = x at *
      by_cases c0 : x < 0
      · have e := HN'.out (.inl c0)
        subst e
        go_wp2
        go_ret
        exact ⟨rfl, rfl⟩
      · by_cases c1 : 1073741824 < x
        · have e := HN'.out (.inr c1)
          subst e
          go_wp2
          go_ret
          exact ⟨rfl, rfl⟩
        · go_wp2
          go_round
          case rel => exact ⟨j + 1, hlt, by go_num, HB.out (by omega)⟩
          case measure => simp [RowKit.intOf]; omega
    · obtain rfl : j = n := by omega
      have e := HO.out HA.out
      subst e
      clear HC HN HG HO
      go_wp2
      go_ret
      exact ⟨rfl, rfl⟩

set_option maxHeartbeats 4000000 in
set_option maxRecDepth 100000 in
theorem Mix_any (p q : Nat → Prop) (av bv : Value) (a b : List Int) (pt : Int) (w : World) (ha : Rk .i64 p w av a) (hb : Rk .i64 q w bv b) (hpt : I64 pt) :
    Calls Tryd.prog 17 #[av, bv, zV pt] w fun e w' => Gives .i64 2 (miL a b pt) (miE a b pt) w e w' := by
  have HGE : Hid (∀ E W, Fresh w W → Gives .i64 2 [] E w (.returned (.tuple #[.slice none 0 0, zV E])) W) := fun E W hF => ⟨_, rfl, own_nil _ _ _, hF⟩
  have HWa : Hid (Unit → _) := fun (_ : Unit) => weighty_any p av a w ha
  have HWb : Hid (Unit → _) := fun (_ : Unit) => weighty_any q bv b w hb
  have hma := ha.many
  have hmb := hb.many
  obtain ⟨p0, p1⟩ := hpt
  obtain ⟨ao, ac, rfl, _⟩ := ha.shape
  obtain ⟨bo, bc, rfl, _⟩ := hb.shape
  by_cases q1 : a.length = b.length
  · by_cases q2 : a.length ≤ 512
    · have q2' : (a.length : Int) ≤ 512 := by omega
      by_cases q3 : pt < 0
      · obtain ⟨e1, e2⟩ := mi_arg (a := a) (b := b) (p := pt) (.inr (.inr (.inl q3)))
        rw [e1, e2]
        rw [← q1] at hmb ⊢
        clear ha hb HWa HWb e1 e2 q1
        generalize a.length = n at *
        go_enter Tryd.func17, Tryd.ntmps17
        go_wp2
        go_ret2
        exact HGE.out 1 _ (Kept.refl _ _)
      · by_cases q4 : 65536 < pt
        · obtain ⟨e1, e2⟩ := mi_arg (a := a) (b := b) (p := pt) (.inr (.inr (.inr q4)))
          rw [e1, e2]
          rw [← q1] at hmb ⊢
          clear ha hb HWa HWb e1 e2 q1
          generalize a.length = n at *
          go_enter Tryd.func17, Tryd.ntmps17
          go_wp2
          go_ret2
          exact HGE.out 1 _ (Kept.refl _ _)
        · cases hOa : okW a with
          | false =>
            obtain ⟨e1, e2⟩ := mi_mean (a := a) (b := b) (p := pt) q1 q2 (by omega) (by omega) (.inl hOa)
            rw [e1, e2]
            rw [hOa] at HWa
            rw [← q1] at hmb ⊢
            clear ha hb HWb e1 e2 q1 hOa
            generalize a.length = n at *
            go_enter Tryd.func17, Tryd.ntmps17
            go_wp2_with fail
            refine (HWa.out ()).mono ?_
            rintro e w1 ⟨rfl, hw1⟩
            have hw2 := hw1.symm
            subst hw2
            clear hw1 HWa
            go_wp2
            go_ret2
            exact HGE.out 110 _ (Kept.refl _ _)
          | true =>
            cases hOb : okW b with
            | false =>
              obtain ⟨e1, e2⟩ := mi_mean (a := a) (b := b) (p := pt) q1 q2 (by omega) (by omega) (.inr hOb)
              rw [e1, e2]
              rw [hOa] at HWa
              rw [hOb] at HWb
              rw [← q1] at hmb HWb ⊢
              clear ha hb e1 e2 q1 hOa hOb
              generalize a.length = n at *
              go_enter Tryd.func17, Tryd.ntmps17
              go_wp2_with fail
              refine (HWa.out ()).mono ?_
              rintro e w1 ⟨rfl, hw1⟩
              have hw2 := hw1.symm
              subst hw2
              clear hw1 HWa
              go_wp2_with fail
              refine (HWb.out ()).mono ?_
              rintro e w1 ⟨rfl, hw1⟩
              have hw2 := hw1.symm
              subst hw2
              clear hw1 HWb
              go_wp2
              go_ret2
              exact HGE.out 110 _ (Kept.refl _ _)
            | true =>
              obtain ⟨e1, e2⟩ := mi_ok (a := a) (b := b) (p := pt) q1 q2 (by omega) (by omega) hOa hOb
              rw [e1, e2]
              rw [hOa] at HWa
              rw [hOb] at HWb
              have HX : Hid (∀ i, ((0 ≤ (65536 - pt) * a.getD i 0 ∧ (65536 - pt) * a.getD i 0 ≤ 70368744177664) ∧ (0 ≤ pt * b.getD i 0 ∧ pt * b.getD i 0 ≤ 70368744177664)) ∧ miF a b pt i = ((65536 - pt) * a.getD i 0 + pt * b.getD i 0) / 65536) := fun i => ⟨mi_mul (by omega) (by omega) (okW_get hOa i) (okW_get hOb i), rfl⟩
              have HC1 : Hid _ := ha.stay
              have HC2 : Hid _ := hb.stay
              rw [← q1] at hmb HWb HC2 ⊢
              clear ha hb e1 e2 q1 hOa hOb HGE
              generalize a.length = n at *
              have HFil := Fil.start (k := .i64) (e := 2) w n (miF a b pt) (by omega)
              have hmk := run_mk ty64 n n (Nat.le_refl _) (by simp [kb]; omega) w
              generalize w.alloc (.cells ((List.replicate n (0 : Int)).map (Value.int .i64)).toArray 2) = W0 at *
              have HW0 : Hid (Fil .i64 2 w n (miF a b pt) 0 W0) := HFil
              clear HFil
              go_enter Tryd.func17, Tryd.ntmps17
              go_wp2_with fail
              refine (HWa.out ()).mono ?_
              rintro e w1 ⟨rfl, hw1⟩
              have hw2 := hw1.symm
              subst hw2
              clear hw1 HWa
              go_wp2_with fail
              refine (HWb.out ()).mono ?_
              rintro e w1 ⟨rfl, hw1⟩
              have hw2 := hw1.symm
              subst hw2
              clear hw1 HWb
              go_wp2
              clear hmk
              go_loopw [41] (fun iv wr => ∃ j : Nat, j ≤ n ∧ iv = zV j ∧ Hid (Fil .i64 2 w n (miF a b pt) j wr)) (fun iv _ => n - (RowKit.intOf iv).toNat)
              case atStart => exact ⟨0, Nat.zero_le _, rfl, HW0.out⟩
              case round =>
                obtain ⟨j, hj, rfl, HA⟩ := hrel
                clear HW0
                by_cases hlt : j < n
                · obtain ⟨b1, off1, rfl, hcell⟩ := HC1.out (by omega)
                  obtain ⟨b2, off2, rfl, hcell2⟩ := HC2.out (by omega)
                  have g1 := hcell wr HA.out.2 j hlt
                  have g2 := hcell2 wr HA.out.2 j hlt
                  have hlt' : (j : Int) < (n : Int) := by omega
                  have f3 := own_frozen HA.out.1 j
                  have g3 := own_get HA.out.1 j hlt
                  obtain ⟨⟨⟨u0, u1⟩, v0, v1⟩, hF⟩ := HX.out j
                  have HXX : Hid (∀ d, Fil .i64 2 w n (miF a b pt) (j + 1) ((wr.drewN d).setCell ⟨w.heap.size, j, none⟩ (.int .i64 (miF a b pt j)))) := fun d => (HA.out.drew d).next hlt
                  rw [hF] at HXX
                  clear hcell hcell2 HC1 HC2 HX HA hF
                  generalize a.getD j 0 = x at *
                  generalize b.getD j 0 = y at *
                  obtain ⟨P, hP⟩ : ∃ P, (65536 - pt) * x = P := ⟨_, rfl⟩
                  obtain ⟨Q, hQ⟩ : ∃ Q, pt * y = Q := ⟨_, rfl⟩
                  rw [hP] at u0 u1 HXX
                  rw [hQ] at v0 v1 HXX
                  go_wp2_with fail
                  go_region
                  all_goals
                    go_wp2
                    go_roundw
                    case rel => exact ⟨j + 1, hlt, by go_num, HXX.out 1⟩
                    case measure => simp [RowKit.intOf]; omega
                · obtain rfl : j = n := by omega
                  clear HX HC1 HC2
                  go_wp2
                  go_ret2
                  exact Fil.done HA.out 0
    · obtain ⟨e1, e2⟩ := mi_arg (a := a) (b := b) (p := pt) (.inr (.inl (by omega)))
      rw [e1, e2]
      have q2' : (512 : Int) < (a.length : Int) := by omega
      rw [← q1] at hmb ⊢
      clear ha hb HWa HWb e1 e2 q1 q2
      generalize a.length = n at *
      go_enter Tryd.func17, Tryd.ntmps17
      go_wp2
      go_ret2
      exact HGE.out 1 _ (Kept.refl _ _)
  · obtain ⟨e1, e2⟩ := mi_arg (a := a) (b := b) (p := pt) (.inl q1)
    rw [e1, e2]
    have q1' : ¬ (a.length : Int) = (b.length : Int) := by omega
    clear ha hb HWa HWb e1 e2 q1
    generalize a.length = n at *
    generalize b.length = m at *
    go_enter Tryd.func17, Tryd.ntmps17
    go_wp2
    go_ret2
    exact HGE.out 1 _ (Kept.refl _ _)
end Go.Proofs.YtohoppnpbgplnabDoor
