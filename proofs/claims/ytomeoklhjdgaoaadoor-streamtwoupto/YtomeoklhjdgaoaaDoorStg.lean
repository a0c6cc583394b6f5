/-
  letOut, endWith, End, Held.
-/
import Derived.Test.YtomeoklhjdgaoaaDoorStf
import Derived.Lib.AppendZeros
namespace Go.Proofs.YtomeoklhjdgaoaaDoor
open Go.RowKit Go.Lib Go.Maps

/-- Where a stream lies, whatever its rows. -/
def StM (F : Nat → Prop) (w : World) (b : Nat) (T : List (List UInt8)) (out held : List UInt8) (en mt : Bool) (met : Int) : Prop := ∃ sv ov, StAt F w b T out held en mt met sv ov
variable {F : Nat → Prop} {w w' : World} {b : Nat} {T : List (List UInt8)} {out held : List UInt8} {en mt : Bool} {met : Int} {sv ov : Value}
theorem StM.fresh (h : StM F w b T out held en mt met) (hk : Fresh w w') : StM F w' b T out held en mt met := let ⟨sv, ov, h2⟩ := h; ⟨sv, ov, h2.fresh hk⟩
theorem StM.kept {S : Nat → Prop} (h : StM F w b T out held en mt met) (hk : Kept S w w') (hS : ∀ q, F q → ¬ S q) : StM F w' b T out held en mt met := let ⟨sv, ov, h2⟩ := h; ⟨sv, ov, h2.kept hk hS⟩
theorem StM.ge3 (h : StM F w b T out held en mt met) : ∀ g, F g → 3 ≤ g := let ⟨_, _, h2⟩ := h; h2.f3
theorem TbM.mvd {F F' : Nat → Prop} {w w' : World} (h : TbM w) (hk : Mvd F w F' w') (h3 : ∀ g, F g → 3 ≤ g) : TbM w' := h.kept hk.1 (fun q hq e => by have := h3 q e; omega)
set_option maxHeartbeats 4000000 in
set_option maxRecDepth 100000 in
theorem letOut_any (l : List UInt8) (h : StM F w b T out held en mt met) (hl : l.length ≤ 16777216) (ho : out.length ≤ 900000000000) :
    Calls Tryd.prog 46 #[.pointer (some ⟨b, 0, none⟩), sV l] w fun e w' => e = .returned (sV (clL l)) ∧ ∃ F', StM F' w' b T (out ++ clL l) held en mt met ∧ Mvd F w F' w' := by
  obtain ⟨sv, ov, h⟩ := h
  have HC := show Hid _ from Clean_any l w (by omega)
  have hcl := clL_le l
  have HA : Hid (∀ w1, Fresh w w1 → ∃ v' w2, (∃ ao n cp, v' = .slice ao n cp) ∧ (Builtin.append_ #[55, 9] 55 #[ov, sV (clL l)]).run Tryd.prog w1 = .ok v' w2 ∧ w2.cell? ⟨b, 1, none⟩ = some ov ∧ w2.frozen? ⟨b, 1, none⟩ = false ∧ ∃ F', StM F' (w2.setCell ⟨b, 1, none⟩ v') b T (out ++ clL l) held en mt met ∧ Mvd F w F' (w2.setCell ⟨b, 1, none⟩ v')) := fun w1 hf => by
    have h1 := h.fresh hf
    obtain ⟨i0, hi, hz0, hz1, hz2⟩ := info_parts infoB
    obtain ⟨v', w2, hrun, hown, hg, hat⟩ := run_append_str (P := Tryd.prog) w1 55 9 55 5 i0 Tryd.underlying55 Tryd.underlying9 hi hz0 hz1 hz2 ov _ _ h1.own ⟨(clL l).toArray⟩ (by rw [len_l]; omega)
    rw [len_l, data_l] at hown
    obtain ⟨F', g1, g2⟩ := h1.grow hg hown hat
    have hov : ov.ownBlock ≠ some b := fun e => (h.fo b e).2 rfl
    have hlt := lt_of_heap h1.blk
    obtain ⟨ao', cp', hsh⟩ := ownsRow_shape hown
    exact ⟨v', w2, ⟨ao', _, cp', hsh⟩, hrun, (hg.cell_far ⟨b, 1, none⟩ hlt (Ne.symm hov)).trans h1.cell.2.1, (hg.frozen_far ⟨b, 1, none⟩ hlt (Ne.symm hov)).trans (h1.free 1), F', ⟨sv, v', g1⟩, (Mvd.fresh hf).trans g2⟩
  have HB : Hid (∀ w1, Fresh w w1 → w1.cell? ⟨b, 1, none⟩ = some ov) := fun w1 hf => (h.fresh hf).cell.2.1
  obtain ⟨ao, cp, rfl⟩ := ownsRow_shape h.own
  clear h
  generalize clL l = C at *
  go_enter Tryd.func46, Tryd.ntmps46
  go_wp2_with fail
  refine Calls.mono HC.out ?_
  rintro e' W1 ⟨rfl, hF1⟩
  obtain ⟨v', w2, ⟨ao', n', cp', rfl⟩, hrun, d1, f1, hend⟩ := HA.out W1 hF1
  have c1 := HB.out W1 hF1
  have HEnd : Hid (∃ F', StM F' (w2.setCell ⟨b, 1, none⟩ (.slice ao' n' cp')) b T (out ++ C) held en mt met ∧ Mvd F w F' (w2.setCell ⟨b, 1, none⟩ (.slice ao' n' cp'))) := hend
  clear HC HA HB hF1 hend
  go_wp2_with (at_builtin; refine Lib.wpList_append_run _ rfl _ _ _ _ rfl _ _ rfl rfl _ _ hrun ?_)
  go_ret
  exact ⟨rfl, HEnd.out⟩
set_option maxHeartbeats 1000000 in
set_option maxRecDepth 100000 in
theorem endWith_any (l : List UInt8) (h : StM F w b T out held en mt met) (hl : l.length ≤ 16777216) (ho : out.length ≤ 900000000000) :
    Calls Tryd.prog 44 #[.pointer (some ⟨b, 0, none⟩), sV l] w fun e w' => e = .returned (sV (clL l)) ∧ ∃ F', StM F' w' b T (out ++ clL l) [] true mt met ∧ Mvd F w F' w' := by
  obtain ⟨sv, ov, h⟩ := h
  have h2 := (h.setEnd true).setHeld []
  have hm : Mvd F w F ((w.setCell ⟨b, 3, none⟩ (.bool true)).setCell ⟨b, 2, none⟩ (sV [])) := (Mvd.store h.fb 3 _).trans (Mvd.store h.fb 2 _)
  have HC := show Hid _ from letOut_any l ⟨sv, ov, h2⟩ hl ho
  have HM : Hid (Mvd F w F ((w.setCell ⟨b, 3, none⟩ (.bool true)).setCell ⟨b, 2, none⟩ (sV []))) := hm
  obtain ⟨c0, c1, c2, c3, c4, c5⟩ := h.cell
  have f2 := h.free 2
  have f3 := h.free 3
  clear h h2 hm
  generalize clL l = C at *
  go_enter Tryd.func44, Tryd.ntmps44
  go_wp2_with fail
  refine Calls.mono HC.out ?_
  rintro e' W1 ⟨rfl, F', g1, g2⟩
  have HEnd : Hid (∃ F', StM F' W1 b T (out ++ C) [] true mt met ∧ Mvd F w F' W1) := ⟨F', g1, HM.out.trans g2⟩
  clear HC HM g1 g2
  go_wp2
  go_ret
  exact ⟨rfl, HEnd.out⟩
end Go.Proofs.YtomeoklhjdgaoaaDoor
