/-
  The document's fits, half, Clean.
-/
import Derived.Test.YtomeoklhjdgaoaaDoorStk
import Derived.Test.YtomeoklhjdgaoaaDoorStx
namespace Go.Proofs.YtomeoklhjdgaoaaDoor
open Go.RowKit Go.Lib Go.Maps

set_option maxHeartbeats 4000000 in
set_option maxRecDepth 100000 in
theorem refFits_any (l : List UInt8) (w : World) (hl : l.length ≤ 1099511627776) :
    Calls Tryd.prog 28 #[sV l] w fun e w' => e = .returned (zV (ftF l)) ∧ Fresh w w' := by
  obtain ⟨S, hS⟩ : ∃ S : ByteArray, S = ⟨l.toArray⟩ := ⟨_, rfl⟩
  have hsz : S.size = l.length := by rw [hS]; exact len_l l
  have hg : ∀ (k : Nat) (h : k < S.size), (S[k]'h).toNat = bN l k := by subst hS; exact fun k h => get_l l k h
  have HG : Hid (∀ (k : Nat) (h : k < S.size), (S[k]'h).toNat = bN l k) := hg
  have hSl : S.size ≤ 1099511627776 := by omega
  obtain ⟨s, hs⟩ : ∃ s, s = szN (bN l 0) := ⟨_, rfl⟩
  have hs4 : s ≤ 4 := hs ▸ szN_le _
  have HOk : Hid (∀ n, okA l n = true ↔ n < S.size ∧ n < s ∧ (n = 0 ∨ laB (bN l 0) n (bN l n) = true)) := fun n => by
    rw [okA_iff, hsz, hs]
    unfold OkA laB
    rw [decide_eq_true_iff]
  have HFt : Hid (∀ k, okA l k = false → (∀ j, j < k → okA l j = true) → ftF l = k) := fun k h1 h2 => ft_is h1 h2
  have HSz : Hid (∀ W, Calls Tryd.prog 29 #[.int .u8 ((bN l 0 : Nat) : Int)] W fun e w' => e = .returned (zV s) ∧ w' = W) := fun W => by rw [hs]; exact refSize_any _ W (bN_lt l 0)
  have HLa : Hid (∀ (n : Nat) (W : World), 1 ≤ n ∧ n ≤ 4 → Calls Tryd.prog 51 #[.int .u8 ((bN l 0 : Nat) : Int), .int .i64 (n : Int), .int .u8 ((bN l n : Nat) : Int)] W fun e w' => e = .returned (.bool (laB (bN l 0) n (bN l n))) ∧ w' = W) := fun n W h => refLater_any _ n _ W h (bN_lt l 0) (bN_lt l n)
  show Calls Tryd.prog _ #[.string ⟨l.toArray⟩] _ _
  rw [← hS]
  clear hS hg hsz hl hs
  generalize ftF l = R at *
  go_enter Tryd.func28, Tryd.ntmps28
  go_wp2
  go_loopw [3] (fun nv wr => ∃ n : Nat, n ≤ 4 ∧ nv = zV n ∧ Hid (Fresh w wr) ∧ Hid (∀ j, j < n → okA l j = true)) (fun nv _ => 5 - (RowKit.intOf nv).toNat)
  case atStart => exact ⟨0, by omega, rfl, Kept.refl _ _, fun j hj => absurd hj (Nat.not_lt_zero _)⟩
  case round =>
    obtain ⟨n, hn4, rfl, HF, HQ⟩ := hrel
    have HOn := show Hid _ from HOk.out n
    have HStop : Hid (okA l n = false → R = n) := fun h => HFt.out n h HQ.out
    have HGo : Hid (okA l n = true → n + 1 ≤ 4 ∧ ∀ j, j < n + 1 → okA l j = true) := fun h => ⟨by have := (HOn.out.1 h).2.1; omega, fun j hj => by
      by_cases e : j = n
      · rw [e]; exact h
      · exact HQ.out j (by omega)⟩
    by_cases h1 : n < S.size
    · have d1 : decide ((n : Int) < (S.size : Int)) = true := decide_eq_true (by omega)
      have h1' : (n : Int) < (S.size : Int) := by omega
      have h0' : (0 : Int) < (S.size : Int) := by omega
      obtain ⟨x0, hx0⟩ : ∃ x0, S[0]'(by omega) = x0 := ⟨_, rfl⟩
      have HX0 : Hid (x0.toNat = bN l 0) := by show _ = _; rw [← hx0]; exact HG.out 0 (by omega)
      obtain ⟨xn, hxn⟩ : ∃ xn, S[n]'h1 = xn := ⟨_, rfl⟩
      have HXn : Hid (xn.toNat = bN l n) := by show _ = _; rw [← hxn]; exact HG.out n h1
      have cS : ∀ W, Calls Tryd.prog 29 #[.int .u8 ((x0.toNat : Nat) : Int)] W fun e w' => e = .returned (zV s) ∧ w' = W := fun W => by rw [HX0.out]; exact HSz.out W
      have cL : 1 ≤ n ∧ n ≤ 4 → ∀ W, Calls Tryd.prog 51 #[.int .u8 ((x0.toNat : Nat) : Int), .int .i64 (n : Int), .int .u8 ((xn.toNat : Nat) : Int)] W fun e w' => e = .returned (.bool (laB (bN l 0) n (bN l n))) ∧ w' = W := fun h W => by rw [HX0.out, HXn.out]; exact HLa.out n W h
      have CS : Hid _ := cS
      have CL : Hid _ := cL
      clear cS cL HSz HLa HFt HOk HG HX0 HXn HQ
      by_cases h2 : n < s
      · have d2 : decide ((n : Int) < (s : Int)) = true := decide_eq_true (by omega)
        by_cases h3 : n = 0
        · subst h3
          have HGo2 := show Hid _ from HGo.out (HOn.out.2 ⟨h1, h2, .inl rfl⟩)
          clear HStop HOn HGo CL
          go_wp2
          go_quiet ((go_at_call 29; exact Calls.quiet_of_same (CS.out _)))
          go_wp2
          go_roundw
          case rel => exact ⟨1, by omega, by go_num, HF.out.drewN _, HGo2.out.2⟩
          case measure => simp [RowKit.intOf]
        · have d3 : ((n : Int) == 0) = false := beq_eq_false_iff_ne.2 (by omega)
          have CL2 := show Hid _ from CL.out ⟨by omega, by omega⟩
          cases hq : laB (bN l 0) n (bN l n) with
          | true =>
            have HGo2 := show Hid _ from HGo.out (HOn.out.2 ⟨h1, h2, .inr hq⟩)
            rw [hq] at CL2
            clear HStop HOn HGo CL hq
            go_wp2
            go_quiet (first | (go_at_call 29; exact Calls.quiet_of_same (CS.out _)) | (go_at_call 51; exact Calls.quiet_of_same (CL2.out _)))
            go_wp2
            go_roundw
            case rel => exact ⟨n + 1, HGo2.out.1, by go_num, HF.out.drewN _, HGo2.out.2⟩
            case measure => simp [RowKit.intOf]; omega
          | false =>
            have hR : Hid (R = n) := HStop.out (by cases e : okA l n with | false => rfl | true => have := (HOn.out.1 e).2.2; rw [hq] at this; simp at this; exact absurd this h3)
            rw [hq] at CL2
            clear HStop HOn HGo CL hq
            go_wp2
            go_quiet (first | (go_at_call 29; exact Calls.quiet_of_same (CS.out _)) | (go_at_call 51; exact Calls.quiet_of_same (CL2.out _)))
            go_wp2
            go_ret
            exact ⟨by rw [hR.out]; rfl, HF.out.drewN _⟩
      · have d2 : decide ((n : Int) < (s : Int)) = false := decide_eq_false (by omega)
        have hR : Hid (R = n) := HStop.out (by cases e : okA l n with | false => rfl | true => exact absurd (HOn.out.1 e).2.1 h2)
        clear HStop HOn HGo CL
        go_wp2
        go_quiet ((go_at_call 29; exact Calls.quiet_of_same (CS.out _)))
        go_wp2
        go_ret
        exact ⟨by rw [hR.out]; rfl, HF.out.drewN _⟩
    · have d1 : decide ((n : Int) < (S.size : Int)) = false := decide_eq_false (by omega)
      have hR : Hid (R = n) := HStop.out (by cases e : okA l n with | false => rfl | true => exact absurd (HOn.out.1 e).1 h1)
      clear HStop HOn HGo HSz HLa HFt HOk HG HQ
      go_wp2
      go_quiet (fail)
      go_wp2
      go_ret
      exact ⟨by rw [hR.out]; rfl, HF.out.drewN _⟩
end Go.Proofs.YtomeoklhjdgaoaaDoor
