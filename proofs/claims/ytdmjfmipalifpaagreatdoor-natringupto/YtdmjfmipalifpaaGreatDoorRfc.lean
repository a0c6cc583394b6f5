/-
  The document's numbers: Of, Mul.
-/
import Derived.Test.YtdmjfmipalifpaaGreatDoorRfa
import Derived.Deep.AppendLies
import Derived.BigQuiet
import Derived.Deep.QuietTactic
namespace Go.Proofs.YtdmjfmipalifpaaGreatDoor
open Go.RowKit

theorem rn_of_own {B : Nat} {w : World} {v : Value} {X : List Nat} (h : w.ownsRow B 3 1 v X.length (enW .i64 X)) (hd : Dg 65536 X) (hc : Can X) (hl : X.length ≤ 35184372088832) : Rn w v (val 65536 X) := by
  refine ⟨X, ?_, hc, rfl⟩
  rcases h.2 with ⟨rfl, h0⟩ | ⟨g, cap, cur, rfl, hb, hg, hn, hm, _⟩
  · have e : X = [] := List.eq_nil_of_length_eq_zero h0
    subst e
    exact Dw.nil _ _ _ _
  · refine ⟨_, cap, rfl, ⟨hn, hl⟩, by unfold maxLen at hm; omega, fun _ => ⟨g, 0, rfl, trivial, lt_of_heap hg, fun i hi => ?_⟩, hd, fun e => by cases e⟩
    rw [Nat.zero_add, h.cellAt i (by omega), List.getElem?_map, List.getD_eq_getElem?_getD, List.getElem?_eq_getElem hi]
    rfl
theorem ownI_empty (w : World) : (w.alloc (.cells #[] 3)).ownsRow w.heap.size 3 1 (.slice (some ⟨w.heap.size, 0, none⟩) 0 0) 0 [] :=
  ⟨rfl, .inr ⟨w.heap.size, 0, #[], rfl, Nat.le_refl _, heap_alloc_new w _, Nat.le_refl _, Nat.zero_le _, rfl, rfl⟩⟩

set_option maxHeartbeats 1000000 in
set_option maxRecDepth 100000 in
theorem refOf_any (n : Nat) (w : World) (hn : n < 9223372036854775808) :
    Calls Tryz.prog 41 #[.int .i64 n] w fun e w' => ∃ v', e = .returned v' ∧ (Rn w' v' n ∧ Fresh w w') := by
  obtain ⟨i0, hi, hz0, hz1, hz2⟩ := info_parts Tryz.infoI
  have hbn : bl n ≤ 63 := bl_le (by omega)
  go_enter Tryz.func41, Tryz.ntmps41
  go_wp2_with fail
  go_loopw [0, 3] (fun nv xv wr => ∃ (m : Nat) (X : List Nat), nv = .int .i64 (m : Int) ∧ m < 9223372036854775808 ∧ wr.ownsRow w.heap.size 3 1 xv X.length (enW .i64 X) ∧ Hid (val 65536 X + 65536 ^ X.length * m = n) ∧ Dg 65536 X ∧ (m = 0 → Can X) ∧ X.length + bl m ≤ 63 ∧ Fresh w wr) (fun nv _ _ => (intOf nv).toNat)
  case atStart => exact ⟨n, [], rfl, hn, ownI_empty w, by simp [Hid, val], Dg.nil _, fun _ => Can.nil, by simpa using hbn, (Kept.refl _ _).alloc _⟩
  case round =>
    obtain ⟨m, X, rfl, hm, hown, HV, hd, hcan, hl, hF⟩ := hrel
    by_cases hz : m = 0
    · subst hz
      have hv := HV.out
      rw [Nat.mul_zero, Nat.add_zero] at hv
      have hR := rn_of_own hown hd (hcan rfl) (by omega)
      rw [hv] at hR
      obtain ⟨a1, n1, c1, rfl⟩ := hR.shape
      have HR := show Hid _ from hR
      have HF := show Hid _ from hF
      clear hR hv hown hcan HV hF
      go_wp2
      go_ret
      exact ⟨_, rfl, HR.out, HF.out⟩
    · obtain ⟨D, hD⟩ : ∃ D, D = m % 65536 := ⟨_, rfl⟩
      obtain ⟨E, hE⟩ : ∃ E, E = m / 65536 := ⟨_, rfl⟩
      have c1 : (m : Int) % 65536 = (D : Int) := by rw [hD]; simp
      have c2 : (m : Int).tmod 65536 = (D : Int) := by rw [hD, Int.tmod_eq_emod_of_nonneg (by omega)]; simp
      have c3 : (m : Int) / 65536 = (E : Int) := by rw [hE]; simp
      have c4 : (m : Int).tdiv 65536 = (E : Int) := by rw [hE, Int.tdiv_eq_ediv_of_nonneg (by omega)]; simp
      have hDl : D < 65536 := by omega
      have hEm : E < m := by omega
      have hEl : E < 9223372036854775808 := by omega
      have hbl : bl E + 1 ≤ bl m := by
        rw [bl_half hz]
        have := bl_mono (show E ≤ m / 2 by omega)
        omega
      have HV' : Hid (val 65536 (X ++ [D]) + 65536 ^ (X ++ [D]).length * E = n) := by
        have := HV.out
        show _ = _
        rw [val_snoc, List.length_append, List.length_singleton, Nat.pow_succ, Nat.mul_assoc, Nat.add_assoc, ← Nat.mul_add, show D + 65536 * E = m by omega]
        exact this
      have hcan' : E = 0 → Can (X ++ [D]) := fun e => can_snoc (by omega)
      obtain ⟨xa, xc, rfl⟩ : ∃ a c, u3 = .slice a X.length c := by
        rcases hown.2 with ⟨h, h0⟩ | ⟨g, cap, cur, h, _⟩
        · exact ⟨none, 0, by rw [h, h0]⟩
        · exact ⟨_, cap, h⟩
      have hW := hF.size
      clear hD hE HV hcan
      go_wp2_with (at_builtin; refine wpList_append_lies _ rfl _ _ _ rfl w.heap.size 3 i0 _ 1 8 Tryz.underlying31 hi hz0 hz1 hz2 rfl (by omega) (.slice xa X.length xc) _ _ rfl (hown.alloc _) ⟨wr.heap.size, 0, none⟩ 1 1 [.int .i64 (D : Int)] rfl rfl (World.news_of_block (cs := #[.int .i64 (D : Int)]) (t := 3) (fr := (0, 0)) (heap_alloc_new wr _)) (by simp [Value.oneCell']) (by omega) (by unfold maxLen; omega) (by omega) (by simp; omega) (wr.heap.size + 1) (by simp) ?_; intro g cap w2 hown2 hgrow hat hlt)
      have hk2 : Kept (fun k => (Value.slice xa X.length xc).ownBlock = some k) wr w2 := ((Kept.refl _ wr).alloc _).grown hgrow (fun k _ e => e)
      have hF2 : Fresh w w2 := hF.trans hk2 (fun i hi e => by
        have := (World.ownsRow.lt hown i e).1
        omega)
      rw [show enW .i64 X ++ [.int .i64 (D : Int)] = enW .i64 (X ++ [D]) by simp [enW]] at hown2
      have HO := show Hid _ from hown2
      have HF2 := show Hid _ from hF2
      clear hown hown2 hgrow hat hlt hk2 hF2 hF
      go_wp2
      go_roundw
      case rel => exact ⟨E, X ++ [D], rfl, hEl, by rw [List.length_append, List.length_singleton]; exact HO.out, HV', hd.append (Dg.one hDl), hcan', by rw [List.length_append, List.length_singleton]; omega, HF2.out⟩
      case measure => simp [intOf]; omega

/-- The index of a product stays in its row. -/
theorem mul_index {B : Nat} {X Y : List Nat} {i j c T : Nat} (hB : 0 < B) (hX : Dg B X) (hY : Dg B Y) (hi : i < X.length) (hc : j < Y.length ∨ 0 < c) (hT : T + B ^ (i + j) * c ≤ val B (X.take (i + 1)) * val B Y) : i + j < X.length + Y.length := by
  rcases hc with h | h
  · omega
  · have h1 := val_lt hB (hX.take (i + 1))
    have h3 := val_lt hB hY
    rw [List.length_take, Nat.min_eq_left (by omega)] at h1
    have h4 : B ^ (i + j) < B ^ (i + 1) * B ^ Y.length := by
      have := Nat.le_mul_of_pos_right (B ^ (i + j)) h
      have := Nat.mul_lt_mul'' h1 h3
      omega
    rw [← Nat.pow_add] at h4
    rcases Nat.lt_or_ge (i + j) (X.length + Y.length) with h5 | h5
    · exact h5
    · have := Nat.pow_le_pow_right (n := B) hB (show i + 1 + Y.length ≤ i + j by omega)
      omega
theorem val_take_le (B : Nat) (L : List Nat) (n : Nat) : val B (L.take n) ≤ val B L := by
  rcases Nat.lt_or_ge L.length n with h | h
  · rw [List.take_of_length_le (by omega)]; exact Nat.le_refl _
  · rw [val_split B L n h]; omega
theorem mul_total {a b c y y' E D Z T : Nat} (h1 : a + T = Z + E * (D * y)) (h2 : b = c + E * D) (h3 : Z = c * y') (h4 : y ≤ y') : a + T ≤ b * y' := by
  rw [h1, h3, h2, Nat.add_mul, Nat.mul_assoc]
  exact Nat.add_le_add_left (Nat.mul_le_mul_left _ (Nat.mul_le_mul_left _ h4)) _
end Go.Proofs.YtdmjfmipalifpaaGreatDoor
