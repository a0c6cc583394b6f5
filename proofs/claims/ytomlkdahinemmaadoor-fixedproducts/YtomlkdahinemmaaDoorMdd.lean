/-
  The document's digits of a product.
-/
import Derived.Test.YtomlkdahinemmaaDoorMdN
import Derived.Test.YtomlkdahinemmaaDoorDwo
import Derived.Test.YtomlkdahinemmaaDoorMu
import Derived.Deep.AppendLies
namespace Go.Proofs.YtomlkdahinemmaaDoor
open Go.RowKit

theorem Tryd.infoU : (Tryd.prog.info? 47).map (fun i => (i.zero, i.size, i.bytes)) = some (some (.int .u64 0), 1, 8) := by kernel_rfl
theorem ownU_empty (w : World) : (w.alloc (.cells #[] 47)).ownsRow w.heap.size 47 1 (.slice (some ⟨w.heap.size, 0, none⟩) 0 0) 0 [] :=
  ⟨rfl, .inr ⟨w.heap.size, 0, #[], rfl, Nat.le_refl _, heap_alloc_new w _, Nat.le_refl _, Nat.zero_le _, rfl, rfl⟩⟩
/-- A row of digits to the base 65536, of words. -/
abbrev Qd (w : World) (v : Value) (L : List Nat) : Prop := Dw .u64 65536 (fun _ => True) w v L
theorem qd_of_own {B : Nat} {w : World} {v : Value} {X : List Nat} (h : w.ownsRow B 47 1 v X.length (enW .u64 X)) (hd : Dg 65536 X) (hl : X.length ≤ 35184372088832) : Dw .u64 65536 (fun k => B ≤ k) w v X := by
  rcases h.2 with ⟨rfl, h0⟩ | ⟨g, cap, cur, rfl, hb, hg, hn, hm, _⟩
  · have e : X = [] := List.eq_nil_of_length_eq_zero h0
    subst e
    exact Dw.nil _ _ _ _
  · refine ⟨_, cap, rfl, ⟨hn, hl⟩, by unfold maxLen at hm; omega, fun _ => ⟨g, 0, rfl, hb, lt_of_heap hg, fun i hi => ?_⟩, hd, fun e => by cases e⟩
    rw [Nat.zero_add, h.cellAt i (by omega), List.getElem?_map, List.getD_eq_getElem?_getD, List.getElem?_eq_getElem hi]
    rfl
/-- What digits answers. -/
def DigO (w w' : World) (x : Nat) (v : Value) : Prop := ∃ X, X.length = 4 ∧ val 65536 X = x ∧ Dw .u64 65536 (fun k => w.heap.size ≤ k) w' v X

set_option maxHeartbeats 1000000 in
set_option maxRecDepth 100000 in
theorem refDigits_any (x : Nat) (w : World) (hx : x < 18446744073709551616) :
    Calls Tryd.prog 37 #[.int .u64 x] w fun e w' => ∃ v', e = .returned v' ∧ (DigO w w' x v' ∧ Fresh w w') := by
  obtain ⟨i0, hi, hz0, hz1, hz2⟩ := info_parts Tryd.infoU
  go_enter Tryd.func37, Tryd.ntmps37
  go_wp2_with fail
  go_loopw [0, 3, 4] (fun nv xv iv wr => ∃ (m : Nat) (X : List Nat), nv = .int .u64 (m : Int) ∧ iv = .int .i64 (X.length : Int) ∧ X.length ≤ 4 ∧ m < 18446744073709551616 ∧ wr.ownsRow w.heap.size 47 1 xv X.length (enW .u64 X) ∧ Hid (val 65536 X + 65536 ^ X.length * m = x) ∧ Dg 65536 X ∧ Fresh w wr) (fun _ _ iv _ => 4 - (intOf iv).toNat)
  case atStart => exact ⟨x, [], rfl, rfl, by simp, hx, ownU_empty w, by simp [Hid, val], Dg.nil _, (Kept.refl _ _).alloc _⟩
  case round =>
    obtain ⟨m, X, rfl, rfl, hX4, hm, hown, HV, hd, hF⟩ := hrel
    obtain ⟨xa, xc, hsh⟩ : ∃ a c, u3 = .slice a X.length c := by
      rcases hown.2 with ⟨h, h0⟩ | ⟨g, cap, cur, h, _⟩
      · exact ⟨none, 0, by rw [h, h0]⟩
      · exact ⟨_, cap, h⟩
    subst hsh
    by_cases hlt : X.length < 4
    · obtain ⟨D, hD⟩ : ∃ D, D = m % 65536 := ⟨_, rfl⟩
      obtain ⟨E, hE⟩ : ∃ E, E = m / 65536 := ⟨_, rfl⟩
      have c1 : (m : Int) % 65536 = (D : Int) := by rw [hD]; simp
      have c3 : (m : Int) / 65536 = (E : Int) := by rw [hE]; simp
      have hDl : D < 65536 := by omega
      have hEl : E < 18446744073709551616 := by omega
      have HV' : Hid (val 65536 (X ++ [D]) + 65536 ^ (X ++ [D]).length * E = x) := by
        have := HV.out
        show _ = _
        rw [val_snoc, List.length_append, List.length_singleton, Nat.pow_succ, Nat.mul_assoc, Nat.add_assoc, ← Nat.mul_add, show D + 65536 * E = m by omega]
        exact this
      have hW := hF.size
      clear hD hE HV
      go_wp2_with (at_builtin; refine wpList_append_lies _ rfl _ _ _ rfl w.heap.size 47 i0 _ 1 8 Tryd.underlying54 hi hz0 hz1 hz2 rfl (by omega) (.slice xa X.length xc) _ _ rfl (hown.alloc _) ⟨wr.heap.size, 0, none⟩ 1 1 [.int .u64 (D : Int)] rfl rfl (World.news_of_block (cs := #[.int .u64 (D : Int)]) (t := 47) (fr := (0, 0)) (heap_alloc_new wr _)) (by simp [Value.oneCell']) (by omega) (by unfold maxLen; omega) (by omega) (by simp; omega) (wr.heap.size + 1) (by simp) ?_; intro g cap w2 hown2 hgrow hat hlt2)
      have hk2 : Kept (fun k => (Value.slice xa X.length xc).ownBlock = some k) wr w2 := ((Kept.refl _ wr).alloc _).grown hgrow (fun k _ e => e)
      have hF2 : Fresh w w2 := hF.trans hk2 (fun i hi e => by
        have := (World.ownsRow.lt hown i e).1
        omega)
      rw [show enW .u64 X ++ [.int .u64 (D : Int)] = enW .u64 (X ++ [D]) by simp [enW]] at hown2
      have HO := show Hid _ from hown2
      have HF2 := show Hid _ from hF2
      clear hown hown2 hgrow hat hlt2 hk2 hF2 hF
      go_wp2
      go_roundw
      case rel => exact ⟨E, X ++ [D], rfl, by simp, by simp; omega, hEl, by rw [List.length_append, List.length_singleton]; exact HO.out, HV', hd.append (Dg.one hDl), HF2.out⟩
      case measure => simp [intOf]; omega
    · have hX : X.length = 4 := by omega
      have hv := HV.out
      rw [hX] at hv
      have hm0 : m = 0 := by
        have : 65536 ^ 4 = 18446744073709551616 := by decide
        rw [this] at hv
        omega
      rw [hm0, Nat.mul_zero, Nat.add_zero] at hv
      have HR : Hid (DigO w wr x (.slice xa X.length xc)) := ⟨X, hX, hv, qd_of_own hown hd (by omega)⟩
      have HF := show Hid _ from hF
      clear hv hown HV hF
      go_wp2
      go_ret
      exact ⟨_, rfl, HR.out, HF.out⟩
end Go.Proofs.YtomlkdahinemmaaDoor
