/-
  Numbers: timesWord.
-/
import Derived.Test.YtgdkbiidjaplhaaDoorWt
namespace Go.Proofs.YtgdkbiidjaplhaaDoor
open Go.RowKit

set_option maxHeartbeats 1000000 in
set_option maxRecDepth 100000 in
theorem timesWord_any (xv : Value) (M m : Nat) (w : World) (hx : Nm w xv M) (hm : m < 18446744073709551616) (hb : bl M ≤ 1099511627776) :
    Calls Tryd.prog 19 #[xv, .int .u64 m] w fun e w' => ∃ v', e = .returned v' ∧ (Nm w' v' (M * m) ∧ Fresh w w') := by
  obtain ⟨i0, hi, hz0, hz1, hz2⟩ := info_parts Tryd.infoU
  obtain ⟨X, hX, hcX, hvX, _⟩ := hx
  have hlX := nm_len hX.dg hcX
  rw [hvX] at hlX
  have hXl : X.length ≤ 17179869185 := by omega
  have hdX := hX.dg
  have hcl := clone_any _ xv X w hX (by omega)
  obtain ⟨xa, xc, rfl⟩ := hX.shape
  clear hX hlX hcX hb
  go_enter Tryd.func19, Tryd.ntmps19
  go_wp2_with fail
  refine hcl.mono ?_
  rintro e w1 ⟨v1, rfl, hown, hF1⟩
  have hW1 := hF1.size
  obtain ⟨va, vc, rfl⟩ : ∃ a c, v1 = .slice a X.length c := by
    rcases hown.2 with ⟨h, h0⟩ | ⟨g, cap, cur, h, _⟩
    · exact ⟨none, 0, by rw [h, h0]⟩
    · exact ⟨_, cap, h⟩
  clear hcl
  go_wp2_with (at_builtin; refine wpList_append_lies _ rfl _ _ _ rfl w.heap.size 44 i0 _ 1 8 Tryd.underlying25 hi hz0 hz1 hz2 rfl (by omega) (.slice va X.length vc) _ _ rfl (hown.alloc _) ⟨w1.heap.size, 0, none⟩ 1 1 [.int .u64 0] rfl rfl (World.news_of_block (cs := #[.int .u64 0]) (t := 44) (fr := (0, 0)) (heap_alloc_new w1 _)) (by simp [Value.oneCell']) (by omega) (by unfold maxLen; omega) (by omega) (by simp; omega) (w1.heap.size + 1) (by simp) ?_; intro g cap w2 hown2 hgrow hat hlt)
  have hk2 : Kept (fun k => (Value.slice va X.length vc).ownBlock = some k) w1 w2 := ((Kept.refl _ w1).alloc _).grown hgrow (fun k _ e => e)
  have hF2 : Fresh w w2 := hF1.trans hk2 (fun i hi e => by
    have := (World.ownsRow.lt hown i e).1
    omega)
  rw [show enW .u64 X ++ [.int .u64 0] = enW .u64 (X ++ [0]) by simp [enW]] at hown2
  obtain ⟨S, hO2, hg, hcap, _, hl2⟩ := ow_of_own hown2
  have hgl := hO2.lt
  have hdX0 : Dg 18446744073709551616 (X ++ [0]) := hdX.append (Dg.one (by omega))
  have hsc := scale_any g cap [] S (X ++ [0]) m 0 w2 hO2 hdX0 (by rw [hl2]; omega) hm (by omega)
  rw [hl2] at hsc
  clear hown hown2 hgrow hat hlt hk2 hO2
  go_wp2_with fail
  refine hsc.mono ?_
  rintro e w3 ⟨rfl, Z, o, hZl, hdZ, hvZ, hO3, hk3⟩
  have hF3 : Fresh w w3 := hF2.trans hk3 (fun i hi e => by have e' : i = g := e; omega)
  have hvv : val 18446744073709551616 Z = M * m := by
    have h1 := val_lt (by omega) hdX
    have h2 := val_snoc 18446744073709551616 X 0
    rw [Nat.mul_zero, Nat.add_zero] at h2
    rw [hl2, h2, Nat.add_zero, Nat.pow_succ] at hvZ
    have h3 : m * val 18446744073709551616 X < 18446744073709551616 ^ X.length * 18446744073709551616 := by
      rw [Nat.mul_comm]
      exact Nat.mul_lt_mul'' h1 hm
    have ho : o = 0 := by
      rcases Nat.eq_zero_or_pos o with h | h
      · exact h
      · have := Nat.le_mul_of_pos_right (18446744073709551616 ^ X.length * 18446744073709551616) h
        omega
    subst ho
    rw [Nat.mul_zero, Nat.add_zero, hvX, Nat.mul_comm] at hvZ
    exact hvZ
  have hD := Ow.dw (B := 18446744073709551616) (cap := cap) hO3 hdZ (by rw [hZl, hl2]; exact hcap) (by rw [hZl, hl2]; omega) (by omega)
  rw [hZl, hl2] at hD
  have ht := trim_any _ _ _ _ hD
  have HF := show Hid _ from hF3
  have HU := show Hid _ from Ow.isU hO3
  have HVV := show Hid _ from hvv
  clear hD hF3 hF2 hO3 hvZ hdZ hsc hF1
  go_wp2_with fail
  refine ht.mono ?_
  rintro e w4 ⟨v', rfl, hT, rfl⟩
  have hN := nm_of_trim hT HU.out
  rw [HVV.out] at hN
  have HN := show Hid _ from hN
  clear hT hN
  go_wp2
  go_ret
  exact ⟨_, rfl, HN.out, HF.out⟩
end Go.Proofs.YtgdkbiidjaplhaaDoor
