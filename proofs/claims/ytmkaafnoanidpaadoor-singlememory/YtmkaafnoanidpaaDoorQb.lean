/-
  Rows of singles as numbers of 8 bits: the program's row and Quantise.
-/
import Derived.Test.YtmkaafnoanidpaaDoorQa
import Derived.Deep.RegionHeld3
namespace Go.Proofs.YtmkaafnoanidpaaDoor
open Go.RowKit Ieee

theorem Tryd.info8' : (Tryd.prog.info? 37).map (fun i => (i.zero, i.size, i.bytes)) = some (some (.int .i8 0), 1, 1) := by kernel_rfl

/-- A single's number of 8 bits at a scale. -/
def q8 (s : Int) (b : Nat) : Int := sgnI (bN b) (whl b s)
def q8s (s : Int) (bs : List Nat) : List Value := bs.map fun b => .int .i8 (q8 s b)

theorem conv_i8 (b : Nat) (s : Int) (h : whl b s ≤ 127) (w : World) : (Go.convert 67 37 (.float .f64 (nstB b s))).run Tryd.prog w = .ok (.int .i8 (q8 s b)) w :=
  run_convert_float_int w 67 37 .f64 .i8 _ _ (by rw [Tryd.underlying67]; rfl) Tryd.underlying37 (to_i8 _ _ h)

set_option maxHeartbeats 1000000 in
set_option maxRecDepth 100000 in
theorem row_own (p : Nat → Prop) (rv : Value) (bs : List Nat) (s : Int) (w : World) (hr : R32 p w rv bs) (hs : -64 ≤ s ∧ s ≤ 64) (hf : ∀ b ∈ bs, bE b ≠ 255 ∧ whl b s ≤ 127) :
    Calls Tryd.prog 33 #[rv, .int .i64 s] w fun e w' =>
      ∃ g, e = .returned (.slice (some ⟨g, 0, none⟩) bs.length bs.length) ∧ w.heap.size ≤ g ∧ w'.ownsRow w.heap.size 37 1 (.slice (some ⟨g, 0, none⟩) bs.length bs.length) bs.length (q8s s bs) ∧ Fresh w w' := by
  obtain ⟨i0, hi, hz0, hz1, hz2⟩ := info_parts Tryd.info8'
  have hr0 := hr
  obtain ⟨ao, cap, rfl, hl, hc, hz, _⟩ := hr
  have hcl : (q8s s bs).length = bs.length := by unfold q8s; rw [List.length_map]
  go_enter Tryd.func33, Tryd.ntmps33
  go_wp2_with (at_make; refine wpList_make_full _ rfl _ _ _ rfl w.heap.size 37 i0 _ 1 Tryd.underlying28 hi hz0 hz1 _ _ _ _ bs.length rfl rfl rfl rfl (by rw [hz2]; omega) (by unfold maxLen; omega) (by omega) ?_; intro w2 hown2 hgrow2)
  have hk2 : Fresh w w2 := (Kept.refl _ w).grown hgrow2 (fun k _ e => by cases e)
  clear hgrow2
  go_loopw [13] (fun c wr => ∃ j : Nat, j ≤ bs.length ∧ c = .int .i64 j ∧ ∃ xs, wr.ownsRow w.heap.size 37 1 (.slice (some ⟨w.heap.size, 0, none⟩) bs.length bs.length) bs.length xs ∧ xs.take j = (q8s s bs).take j ∧ Fresh w wr) (fun c _ => bs.length - (intOf c).toNat)
  case atStart => exact ⟨0, by omega, rfl, _, hown2, rfl, hk2⟩
  case round =>
    obtain ⟨j, hj, rfl, xs, hown, htk, hk⟩ := hrel
    by_cases hlt : j < bs.length
    · obtain ⟨b, off, rfl, _, hb, hcell⟩ := hc (fun e => by rw [e] at hlt; simp at hlt)
      have g1 : wr.cell? ⟨b, off + j, none⟩ = some (.int .u32 (bs.getD j 0 : Nat)) := (hk.cell (p := ⟨b, off + j, none⟩) hb (fun e => e)).trans (hcell j hlt)
      have hmem : bs.getD j 0 ∈ bs := by rw [List.getD_eq_getElem?_getD, List.getElem?_eq_getElem hlt]; exact List.getElem_mem hlt
      have hz1 := hz _ hmem
      obtain ⟨hE, hW⟩ := hf _ hmem
      have HN := show Hid _ from fun X => nearest_any (bs.getD j 0) s X hz1 hE hs
      have HC := show Hid _ from fun X => conv_i8 (bs.getD j 0) s hW X
      have hxl : xs.length = bs.length := by have := hown.1; omega
      have hcj : wr.cell? ⟨w.heap.size, j, none⟩ = some (xs[j]'(by omega)) := by rw [hown.cellAt j (by omega), List.getElem?_eq_getElem (by omega)]
      have hfj : wr.frozen? ⟨w.heap.size, j, none⟩ = false := hown.frozenAt j
      obtain ⟨st1, st2⟩ := hown.stored j (.int .i8 (q8 s (bs.getD j 0)))
      have hset : (xs.set j (.int .i8 (q8 s (bs.getD j 0)))).take (j + 1) = (q8s s bs).take (j + 1) := by
        rw [List.take_succ_eq_append_getElem (by rw [List.length_set]; omega), List.take_succ_eq_append_getElem (l := q8s s bs) (by omega), List.take_set_of_le (by omega), htk, List.getElem_set_self]
        congr 2
        unfold q8s
        rw [List.getElem_map, List.getD_eq_getElem?_getD, List.getElem?_eq_getElem hlt]
        rfl
      have r1 : Fresh w (wr.setCell ⟨w.heap.size, j, none⟩ (.int .i8 (q8 s (bs.getD j 0)))) := hk.setCell (p := ⟨w.heap.size, j, none⟩) (fun e => by simp at e) _
      have HS := show Hid _ from hset
      have H1 := show Hid _ from st1
      have HR := show Hid _ from r1
      have hj0 : (0 : Int) ≤ (j : Int) := by omega
      have hj1 : (j : Int) < (bs.length : Int) := by omega
      clear hset st1 st2 r1 hown htk hcell hc hz hf hmem hE hW
      generalize q8 s (bs.getD j 0) = Q at *
      generalize nstB (bs.getD j 0) s = D at *
      generalize bs.getD j 0 = z at *
      go_wp2_with fail
      refine (HN.out _).mono ?_
      rintro r X ⟨rfl, rfl⟩
      have hcv := HC.out
      go_wp2
      go_roundw
      case rel => exact ⟨j + 1, by omega, by go_num, _, H1.out, HS.out, HR.out⟩
      case measure => simp [intOf]; omega
    · obtain rfl : j = bs.length := by omega
      have hxe : xs = q8s s bs := by
        rw [List.take_of_length_le (by have := hown.1; omega), List.take_of_length_le (by omega)] at htk
        exact htk
      subst hxe
      clear htk
      go_wp2
      go_ret
      exact ⟨_, rfl, Nat.le_refl _, hown, hk⟩

theorem gm_ge (bs : List Nat) : ∀ k i, i < k → bs.getD i 0 % 2147483648 ≤ gm bs k
  | 0, i, h => by omega
  | k + 1, i, h => by
    unfold gm
    rcases Nat.lt_or_ge i k with g | g
    · have := gm_ge bs k i g
      omega
    · obtain rfl : i = k := by omega
      omega
theorem gm_all {bs : List Nat} {b : Nat} (h : b ∈ bs) : b % 2147483648 ≤ gm bs bs.length := by
  obtain ⟨i, hi, e⟩ := List.getElem_of_mem h
  have := gm_ge bs bs.length i hi
  rw [List.getD_eq_getElem?_getD, List.getElem?_eq_getElem hi] at this
  rw [← e]
  exact this
theorem fin_of_low {b : Nat} (h : b % 2147483648 < 2139095040) : bE b ≠ 255 := fun e => by
  rw [low_eq, e] at h
  omega
theorem whl_zero (s : Int) : whl 0 s = 0 := by
  unfold whl
  rw [show mt 0 = 0 from by decide]
  exact rnI_zero _
/-- The scale of a greatest size, and its error. -/
def IsSc (g : Nat) (s : Int) : Prop := (g = 0 ∧ s = 0) ∨ (g ≠ 0 ∧ -64 ≤ s ∧ s ≤ 64 ∧ whl g s ≤ 127 ∧ ∀ s', s < s' → s' ≤ 64 → 127 < whl g s')

/-- What Quantise answers: the error, the scale, and the row. -/
def QnIs (bs : List Nat) (e s : Int) (zs : List Int) : Prop :=
  (2139095040 ≤ gm bs bs.length ∧ e = 30 ∧ s = 0 ∧ zs = []) ∨
  (gm bs bs.length < 2139095040 ∧ gm bs bs.length ≠ 0 ∧ (∀ s' : Int, -64 ≤ s' → s' ≤ 64 → 127 < whl (gm bs bs.length) s') ∧ e = 31 ∧ s = 0 ∧ zs = []) ∨
  (gm bs bs.length < 2139095040 ∧ IsSc (gm bs bs.length) s ∧ e = 0 ∧ zs = bs.map (q8 s))

theorem room_all {bs : List Nat} {s : Int} (hg : gm bs bs.length < 2139095040) (h : IsSc (gm bs bs.length) s) : (-64 ≤ s ∧ s ≤ 64) ∧ ∀ b ∈ bs, bE b ≠ 255 ∧ whl b s ≤ 127 := by
  have hf := (low_fin hg).1
  have hw : (-64 ≤ s ∧ s ≤ 64) ∧ whl (gm bs bs.length) s ≤ 127 := by
    rcases h with ⟨h0, rfl⟩ | ⟨_, h1, h2, h3, _⟩
    · rw [h0, whl_zero]; omega
    · exact ⟨⟨h1, h2⟩, h3⟩
  refine ⟨hw.1, fun b hb => ?_⟩
  have hl := gm_all hb
  have h1 := fin_of_low (b := b) (by omega)
  refine ⟨h1, Nat.le_trans ?_ hw.2⟩
  refine nst_mono h1 hf s ?_
  rw [Nat.mod_eq_of_lt (gm_lt _ _)]
  exact hl

theorem own_low {w : World} {base base' : Nat} {e : TypeId} {size : Nat} {v : Value} {n : Nat} {xs : List Value} (h : w.ownsRow base e size v n xs) (hb : base' ≤ base) : w.ownsRow base' e size v n xs :=
  ⟨h.1, h.2.imp id fun ⟨g, cap, cur, h1, h2, h3⟩ => ⟨g, cap, cur, h1, Nat.le_trans hb h2, h3⟩⟩

end Go.Proofs.YtmkaafnoanidpaaDoor
