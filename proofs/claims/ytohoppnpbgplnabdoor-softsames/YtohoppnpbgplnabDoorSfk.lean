/-
  The document's Mix; Best: the package's and the document's.
-/
import Derived.Test.YtohoppnpbgplnabDoorSfj
import Derived.Test.YtohoppnpbgplnabDoorSfd
import Derived.Test.YtohoppnpbgplnabDoorFam
namespace Go.Proofs.YtohoppnpbgplnabDoor
open Go.RowKit Go.Lib Go.Maps

set_option maxHeartbeats 4000000 in
set_option maxRecDepth 100000 in
theorem refMix_any (p q : Nat → Prop) (av bv : Value) (a b : List Int) (pt : Int) (w : World) (ha : Rk .i64 p w av a) (hb : Rk .i64 q w bv b) (hpt : I64 pt) :
    Calls Tryd.prog 18 #[av, bv, zV pt] w fun e w' => Gives .i64 2 (miL a b pt) (miE a b pt) w e w' := by
  have HGE : Hid (∀ E, Gives .i64 2 [] E w (.returned (.tuple #[.slice (some ⟨w.heap.size, 0, none⟩) 0 0, zV E])) (w.alloc (.cells #[] 2))) := fun E => Gives_empty .i64 2 E (Kept.refl _ w)
  have HWa : Hid (Unit → _) := fun (_ : Unit) => weighs_any p av a w ha
  have HWb : Hid (Unit → _) := fun (_ : Unit) => weighs_any q bv b w hb
  have hma := ha.many
  have hmb := hb.many
  obtain ⟨p0, p1⟩ := hpt
  obtain ⟨ao, ac, rfl, _⟩ := ha.shape
  obtain ⟨bo, bc, rfl, _⟩ := hb.shape
  by_cases q1 : a.length = b.length
  · by_cases q2 : a.length ≤ 512
    · have q2' : (a.length : Int) ≤ 512 := by omega
      by_cases q3 : pt < 0
      · obtain ⟨e1, e2⟩ := mi_arg (a := a) (b := b) (p := pt) (.inr (.inr (.inl q3)))
        rw [e1, e2]
        rw [← q1] at hmb ⊢
        clear ha hb HWa HWb e1 e2 q1
        generalize a.length = n at *
        go_enter Tryd.func18, Tryd.ntmps18
        go_wp2
        go_ret2
        exact HGE.out 1
      · by_cases q4 : 65536 < pt
        · obtain ⟨e1, e2⟩ := mi_arg (a := a) (b := b) (p := pt) (.inr (.inr (.inr q4)))
          rw [e1, e2]
          rw [← q1] at hmb ⊢
          clear ha hb HWa HWb e1 e2 q1
          generalize a.length = n at *
          go_enter Tryd.func18, Tryd.ntmps18
          go_wp2
          go_ret2
          exact HGE.out 1
        · cases hOa : okW a with
          | false =>
            obtain ⟨e1, e2⟩ := mi_mean (a := a) (b := b) (p := pt) q1 q2 (by omega) (by omega) (.inl hOa)
            rw [e1, e2]
            rw [hOa] at HWa
            rw [← q1] at hmb ⊢
            clear ha hb HWb e1 e2 q1 hOa
            generalize a.length = n at *
            go_enter Tryd.func18, Tryd.ntmps18
            go_wp2_with fail
            refine (HWa.out ()).mono ?_
            rintro e w1 ⟨rfl, hw1⟩
            have hw2 := hw1.symm
            subst hw2
            clear hw1 HWa
            go_wp2
            go_ret2
            exact HGE.out 110
          | true =>
            cases hOb : okW b with
            | false =>
              obtain ⟨e1, e2⟩ := mi_mean (a := a) (b := b) (p := pt) q1 q2 (by omega) (by omega) (.inr hOb)
              rw [e1, e2]
              rw [hOa] at HWa
              rw [hOb] at HWb
              rw [← q1] at hmb HWb ⊢
              clear ha hb e1 e2 q1 hOa hOb
              generalize a.length = n at *
              go_enter Tryd.func18, Tryd.ntmps18
              go_wp2_with fail
              refine (HWa.out ()).mono ?_
              rintro e w1 ⟨rfl, hw1⟩
              have hw2 := hw1.symm
              subst hw2
              clear hw1 HWa
              go_wp2_with fail
              refine (HWb.out ()).mono ?_
              rintro e w1 ⟨rfl, hw1⟩
              have hw2 := hw1.symm
              subst hw2
              clear hw1 HWb
              go_wp2
              go_ret2
              exact HGE.out 110
            | true =>
              obtain ⟨e1, e2⟩ := mi_ok (a := a) (b := b) (p := pt) q1 q2 (by omega) (by omega) hOa hOb
              rw [e1, e2]
              rw [hOa] at HWa
              rw [hOb] at HWb
              have HX : Hid (∀ i, ((0 ≤ (65536 - pt) * a.getD i 0 ∧ (65536 - pt) * a.getD i 0 ≤ 70368744177664) ∧ (0 ≤ pt * b.getD i 0 ∧ pt * b.getD i 0 ≤ 70368744177664)) ∧ miF a b pt i = ((65536 - pt) * a.getD i 0 + pt * b.getD i 0) / 65536) := fun i => ⟨mi_mul (by omega) (by omega) (okW_get hOa i) (okW_get hOb i), rfl⟩
              have HC1 : Hid _ := ha.stay
              have HC2 : Hid _ := hb.stay
              rw [← q1] at hmb HWb HC2 ⊢
              have hS : Hid (Grw .i64 2 w (miF a b pt) 0 w.heap.size 0 (w.alloc (.cells #[] 2))) := Grw.start _ (Kept.refl _ _)
              clear ha hb e1 e2 q1 hOa hOb HGE
              generalize a.length = n at *
              generalize hW0 : w.alloc (.cells #[] 2) = W0 at *
              go_enter Tryd.func18, Tryd.ntmps18
              go_wp2_with fail
              refine (HWa.out ()).mono ?_
              rintro e w1 ⟨rfl, hw1⟩
              have hw2 := hw1.symm
              subst hw2
              clear hw1 HWa
              go_wp2_with fail
              refine (HWb.out ()).mono ?_
              rintro e w1 ⟨rfl, hw1⟩
              have hw2 := hw1.symm
              subst hw2
              clear hw1 HWb
              go_wp2
              clear hW0
              go_loopw [8, 9] (fun ov iv wr => ∃ j g c : Nat, j ≤ n ∧ iv = zV j ∧ ov = .slice (some ⟨g, 0, none⟩) j c ∧ Hid (Grw .i64 2 w (miF a b pt) j g c wr)) (fun _ iv _ => n - (RowKit.intOf iv).toNat)
              case atStart => exact ⟨0, _, _, Nat.zero_le _, rfl, rfl, hS.out⟩
              case round =>
                obtain ⟨j, og, oc, hj, rfl, rfl, HA⟩ := hrel
                clear hS
                by_cases hlt : j < n
                · obtain ⟨b1, off1, rfl, hcell⟩ := HC1.out (by omega)
                  obtain ⟨b2, off2, rfl, hcell2⟩ := HC2.out (by omega)
                  have g1 := hcell wr HA.out.2 j hlt
                  have g2 := hcell2 wr HA.out.2 j hlt
                  have hlt' : (j : Int) < (n : Int) := by omega
                  obtain ⟨⟨⟨u0, u1⟩, v0, v1⟩, hF⟩ := HX.out j
                  have HEnd : Hid (∀ d : Nat, ∃ g' c' X', _ ∧ _) := fun d => (HA.out.drew d).push ty64 (by simp [kb]; omega)
                  have HFl : Hid (∀ W : World, _) := fun (W : World) => refFloor_ok ((65536 - pt) * a.getD j 0 + pt * b.getD j 0) 65536 W ⟨by omega, by omega⟩ (by omega) (by omega)
                  rw [← hF] at HFl
                  clear hcell hcell2 HC1 HC2 HX HA hF
                  generalize miF a b pt j = M at *
                  generalize a.getD j 0 = x at *
                  generalize b.getD j 0 = y at *
                  obtain ⟨P, hP⟩ : ∃ P, (65536 - pt) * x = P := ⟨_, rfl⟩
                  obtain ⟨Q, hQ⟩ : ∃ Q, pt * y = Q := ⟨_, rfl⟩
                  rw [hP] at u0 u1 HFl
                  rw [hQ] at v0 v1 HFl
                  generalize (P + Q) % 65536 = R at *
                  go_wp2_with fail
                  go_quiet ((go_at_call 34; exact Calls.quiet_of (HFl.out _)))
                  obtain ⟨g', c', X', hr1, hG⟩ := HEnd.out nq
                  have HG : Hid _ := hG
                  clear HEnd HFl hG
                  go_wp2_with (at_builtin; refine Lib.wpList_append_run _ rfl _ _ _ _ rfl _ _ rfl rfl _ _ hr1 ?_)
                  go_roundw
                  case rel => exact ⟨j + 1, g', c', hlt, by go_num, rfl, HG.out⟩
                  case measure => simp [RowKit.intOf]; omega
                · obtain rfl : j = n := by omega
                  have HXX : Hid (Gives .i64 2 (mkL j (miF a b pt)) 0 w (.returned (.tuple #[.slice (some ⟨og, 0, none⟩) j oc, zV 0])) wr) := HA.out.done 0
                  clear HX HC1 HC2 HA
                  go_wp2
                  go_ret2
                  exact HXX.out
    · obtain ⟨e1, e2⟩ := mi_arg (a := a) (b := b) (p := pt) (.inr (.inl (by omega)))
      rw [e1, e2]
      have q2' : (512 : Int) < (a.length : Int) := by omega
      rw [← q1] at hmb ⊢
      clear ha hb HWa HWb e1 e2 q1 q2
      generalize a.length = n at *
      go_enter Tryd.func18, Tryd.ntmps18
      go_wp2
      go_ret2
      exact HGE.out 1
  · obtain ⟨e1, e2⟩ := mi_arg (a := a) (b := b) (p := pt) (.inl q1)
    rw [e1, e2]
    have q1' : ¬ (a.length : Int) = (b.length : Int) := by omega
    clear ha hb HWa HWb e1 e2 q1
    generalize a.length = n at *
    generalize b.length = m at *
    go_enter Tryd.func18, Tryd.ntmps18
    go_wp2
    go_ret2
    exact HGE.out 1

/-- The place of the greatest weight, and the number there. -/
def beP (w : List Int) (n : Nat) : Int := if meE w n = 0 then am w n else 0
def beV (w v : List Int) : Int := if meE w v.length = 0 then v.getD (am w v.length).toNat 0 else 0
theorem am_pos (w : List Int) : ∀ n, 1 ≤ n → 0 ≤ am w n ∧ am w n < n
  | n + 1, _ => by
    have h := am_bound w (n + 1)
    have e : am w (n + 1) = if am w n < 0 ∨ w.getD (am w n).toNat 0 < w.getD n 0 then (n : Int) else am w n := rfl
    rw [e] at h ⊢
    split at h <;> split <;> omega

set_option maxHeartbeats 400000 in
set_option maxRecDepth 100000 in
theorem Best_any (p q : Nat → Prop) (wv vv : Value) (ws vs : List Int) (w : World) (hw : Rk .i64 p w wv ws) (hv : Rk .i8 q w vv vs) :
    Calls Tryd.prog 19 #[wv, vv] w fun e w' => e = .returned (.tuple #[.int .i8 (beV ws vs), zV (beP ws vs.length), zV (meE ws vs.length)]) ∧ Drew w w' := by
  have HW : Hid (Unit → _) := fun (_ : Unit) => weighed_any p wv ws vs.length w hw hv.many
  have hm := hv.many
  have HA : Hid (∀ W, Fresh w W → _) := fun W hF => argmax_any p wv ws W (hw.fresh hF).rw
  obtain ⟨ao, ac, rfl, _⟩ := hw.shape
  obtain ⟨bo, bc, rfl, _⟩ := hv.shape
  by_cases h0 : meE ws vs.length = 0
  · have hn1 : 1 ≤ vs.length := by
      obtain ⟨e, _, _, h2⟩ := meE_zero h0
      rcases Nat.eq_zero_or_pos vs.length with h0 | h0
      · exact absurd (by rw [e, h0]; rfl) h2
      · exact h0
    have hV : beV ws vs = vs.getD (am ws vs.length).toNat 0 := if_pos h0
    have hP : beP ws vs.length = am ws vs.length := if_pos h0
    obtain ⟨k0, k1⟩ := am_pos ws vs.length hn1
    rw [h0, hV, hP]
    rw [h0] at HW
    rw [(meE_zero h0).1] at HA HW ⊢
    have HC2 : Hid _ := hv.stay
    clear hw hv h0 hV hP
    generalize meS ws vs.length = S at *
    obtain ⟨i, hi⟩ : ∃ i : Nat, am ws vs.length = i := ⟨(am ws vs.length).toNat, by omega⟩
    rw [hi] at HA k0 k1 ⊢
    rw [Int.toNat_natCast]
    generalize vs.length = n at *
    go_enter Tryd.func19, Tryd.ntmps19
    go_wp2_with fail
    refine (HW.out ()).mono ?_
    rintro e w1 ⟨rfl, d1, hw1⟩
    have HF1 : Hid (Fresh w w1) := by show Fresh _ _; rw [hw1]; exact kept_drewN _ _ _
    have HCall : Hid (Unit → _) := fun (_ : Unit) => HA.out w1 HF1.out
    have HD1 : Hid (Drew w w1) := ⟨d1, hw1⟩
    clear hw1 HW HA
    go_wp2_with fail
    refine (HCall.out ()).mono ?_
    rintro e w2 ⟨rfl, d2, hw2⟩
    have HD2 : Hid (Drew w w2) := by show Drew _ _; rw [hw2]; exact HD1.out.more d2
    have hF2 : Fresh w w2 := by rw [hw2]; exact HF1.out.drewN d2
    obtain ⟨b, off, rfl, hcell⟩ := HC2.out (by omega)
    have g2 := hcell w2 hF2 i (by omega)
    clear hw2 HCall HC2 hcell hF2 HF1 HD1
    go_wp2
    go_ret3
    exact ⟨rfl, HD2.out⟩
  · have hV : beV ws vs = 0 := if_neg h0
    have hP : beP ws vs.length = 0 := if_neg h0
    rw [hV, hP]
    have h0' : (meE ws vs.length == 0) = false := by simp [h0]
    clear hw hv hV hP HA
    generalize meS ws vs.length = S at *
    generalize meE ws vs.length = E at *
    generalize vs.length = n at *
    go_enter Tryd.func19, Tryd.ntmps19
    go_wp2_with fail
    refine (HW.out ()).mono ?_
    rintro e w1 ⟨rfl, hw1⟩
    have HF : Hid (Drew w w1) := hw1
    clear hw1 HW
    go_wp2
    go_ret3
    exact ⟨rfl, HF.out⟩

/-- The first place of the greatest among the first k, from place 0 on. -/
def amz (w : List Int) : Nat → Nat
  | 0 => 0
  | k + 1 => if w.getD (amz w k) 0 < w.getD k 0 then k else amz w k
theorem amz_am (w : List Int) : ∀ n, 1 ≤ n → (amz w n : Int) = am w n
  | 1, _ => by
    have e : am w 1 = if am w 0 < 0 ∨ w.getD (am w 0).toNat 0 < w.getD 0 0 then ((0 : Nat) : Int) else am w 0 := rfl
    rw [e, if_pos (.inl (by show (-1 : Int) < 0; omega))]
    have e2 : amz w 1 = if w.getD (amz w 0) 0 < w.getD 0 0 then 0 else amz w 0 := rfl
    rw [e2, show amz w 0 = 0 from rfl]
    simp
  | n + 2, _ => by
    have ih := amz_am w (n + 1) (by omega)
    have e : am w (n + 2) = if am w (n + 1) < 0 ∨ w.getD (am w (n + 1)).toNat 0 < w.getD (n + 1) 0 then ((n + 1 : Nat) : Int) else am w (n + 1) := rfl
    have e2 : amz w (n + 2) = if w.getD (amz w (n + 1)) 0 < w.getD (n + 1) 0 then n + 1 else amz w (n + 1) := rfl
    rw [e, e2, ← ih]
    have h0 : ¬ ((amz w (n + 1) : Nat) : Int) < 0 := by omega
    rw [Int.toNat_natCast]
    by_cases h : w.getD (amz w (n + 1)) 0 < w.getD (n + 1) 0
    · rw [if_pos h, if_pos (.inr h)]
    · rw [if_neg h, if_neg (by rintro (a | a); exact h0 a; exact h a)]
theorem amz_lt (w : List Int) : ∀ n, 1 ≤ n → amz w n < n := fun n h => by
  have h1 := amz_am w n h
  have h2 := am_pos w n h
  omega
theorem amz_in (w : List Int) (k n : Nat) (h : k ≤ n) (hn : 1 ≤ n) : amz w k < n := by
  rcases Nat.eq_zero_or_pos k with e | e
  · subst e; exact hn
  · have := amz_lt w k e; omega

set_option maxHeartbeats 400000 in
set_option maxRecDepth 100000 in
theorem refBest_any (p q : Nat → Prop) (wv vv : Value) (ws vs : List Int) (w : World) (hw : Rk .i64 p w wv ws) (hv : Rk .i8 q w vv vs) :
    Calls Tryd.prog 20 #[wv, vv] w fun e w' => e = .returned (.tuple #[.int .i8 (beV ws vs), zV (beP ws vs.length), zV (meE ws vs.length)]) ∧ Drew w w' := by
  have HW : Hid (Unit → _) := fun (_ : Unit) => refMean_any p q wv vv ws vs w hw hv
  have hm := hv.many
  obtain ⟨ao, ac, rfl, _⟩ := hw.shape
  obtain ⟨bo, bc, rfl, _⟩ := hv.shape
  by_cases h0 : meE ws vs.length = 0
  · have hn1 : 1 ≤ vs.length := by
      obtain ⟨e, _, _, h2⟩ := meE_zero h0
      rcases Nat.eq_zero_or_pos vs.length with h0 | h0
      · exact absurd (by rw [e, h0]; rfl) h2
      · exact h0
    have hV : beV ws vs = vs.getD (amz ws vs.length) 0 := by
      have : beV ws vs = vs.getD (am ws vs.length).toNat 0 := if_pos h0
      rw [this, ← amz_am ws _ hn1, Int.toNat_natCast]
    have hP : beP ws vs.length = (amz ws vs.length : Int) := by
      have : beP ws vs.length = am ws vs.length := if_pos h0
      rw [this, amz_am ws _ hn1]
    rw [h0, hV, hP]
    rw [h0] at HW
    have HC1 : Hid _ := hw.stay
    have HC2 : Hid _ := hv.stay
    rw [(meE_zero h0).1] at HC1 HW ⊢
    have HIn : Hid (∀ k, k ≤ vs.length → amz ws k < vs.length) := fun k hk => amz_in ws k _ hk hn1
    clear hw hv h0 hV hP
    generalize meV ws vs = S at *
    generalize vs.length = n at *
    go_enter Tryd.func20, Tryd.ntmps20
    go_wp2_with fail
    refine (HW.out ()).mono ?_
    rintro e w1 ⟨rfl, d1, hw1⟩
    have HF1 : Hid (Fresh w w1) := by show Fresh _ _; rw [hw1]; exact kept_drewN _ _ _
    have HD1 : Hid (Drew w w1) := ⟨d1, hw1⟩
    clear hw1 HW
    go_wp2
    go_loopw [9, 10] (fun av iv wr => ∃ j d : Nat, j ≤ n ∧ iv = zV j ∧ av = zV (amz ws j : Nat) ∧ wr = w1.drewN d) (fun _ iv _ => n - (RowKit.intOf iv).toNat)
    case atStart => exact ⟨0, 0, Nat.zero_le _, rfl, rfl, rfl⟩
    case round =>
      obtain ⟨j, d, hj, rfl, rfl, rfl⟩ := hrel
      have hin := HIn.out j hj
      by_cases hlt : j < n
      · obtain ⟨b, off, rfl, hcell⟩ := HC1.out (by omega)
        have g1 := hcell w1 HF1.out j hlt
        have g2 := hcell w1 HF1.out (amz ws j) hin
        have hlt' : (j : Int) < (n : Int) := by omega
        have HS : Hid (amz ws (j + 1) = if ws.getD (amz ws j) 0 < ws.getD j 0 then j else amz ws j) := rfl
        have hin' : ((amz ws j : Nat) : Int) < (n : Int) := by omega
        clear hcell HC1 HC2 HIn
        generalize amz ws j = m at *
        generalize ws.getD j 0 = x at *
        generalize ws.getD m 0 = y at *
        by_cases hx : y < x
        · rw [if_pos hx] at HS
          go_wp2_with fail
          go_quiet (fail)
          go_wp2
          go_roundw
          case rel => exact ⟨j + 1, d + nq, hlt, by go_num, by rw [HS.out], rfl⟩
          case measure => simp [RowKit.intOf]; omega
        · rw [if_neg hx] at HS
          go_wp2_with fail
          go_quiet (fail)
          go_wp2
          go_roundw
          case rel => exact ⟨j + 1, d + nq, hlt, by go_num, by rw [HS.out], rfl⟩
          case measure => simp [RowKit.intOf]; omega
      · obtain rfl : j = n := by omega
        obtain ⟨b, off, rfl, hcell⟩ := HC2.out (by omega)
        have g2 := hcell w1 HF1.out (amz ws j) hin
        have hin' : ((amz ws j : Nat) : Int) < (j : Int) := by omega
        have HDd : Hid (Drew w (w1.drewN d)) := HD1.out.more d
        clear HC1 HC2 HIn hcell
        go_wp2
        go_ret3
        exact ⟨rfl, HDd.out⟩
  · have hV : beV ws vs = 0 := if_neg h0
    have hP : beP ws vs.length = 0 := if_neg h0
    rw [hV, hP]
    have h0' : (meE ws vs.length == 0) = false := by simp [h0]
    clear hw hv hV hP
    generalize meV ws vs = S at *
    generalize meE ws vs.length = E at *
    generalize vs.length = n at *
    go_enter Tryd.func20, Tryd.ntmps20
    go_wp2_with fail
    refine (HW.out ()).mono ?_
    rintro e w1 ⟨rfl, hw1⟩
    have HF : Hid (Drew w w1) := hw1
    clear hw1 HW
    go_wp2
    go_ret3
    exact ⟨rfl, HF.out⟩
end Go.Proofs.YtohoppnpbgplnabDoor
