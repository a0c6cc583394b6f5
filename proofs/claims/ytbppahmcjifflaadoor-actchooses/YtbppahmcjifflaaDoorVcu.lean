/-
  Widen, Scale and Shrink, the document's.
-/
import Derived.Test.YtbppahmcjifflaaDoorVsb
namespace Go.Proofs.YtbppahmcjifflaaDoor
open Go.RowKit Go.Lib Go.Maps

theorem rdQ_i64 {x s : Int} (hx : I64 x) : I64 (rdQ x s) := by
  unfold rdQ
  split
  · exact ⟨by decide, by decide⟩
  · rename_i h
    have hk : s.toNat ≤ 62 := by omega
    have hp := pow62 s.toNat hk
    generalize (2 : Int) ^ s.toNat = d at *
    obtain ⟨x0, x1⟩ := hx
    have hb := ediv_bounds x d hp.1 x0 x1
    have hm0 := Int.emod_nonneg x (show d ≠ 0 by omega)
    have hm1 := Int.emod_lt_of_pos x (show 0 < d by omega)
    unfold near I64
    split
    · rename_i hc
      have h2 : 2 ≤ d := by omega
      have := ediv_half x d ⟨x0, x1⟩ h2
      omega
    · exact hb

set_option maxHeartbeats 4000000 in
set_option maxRecDepth 100000 in
theorem refScale_any (p : Nat → Prop) (lv : Value) (l : List Int) (s : Int) (w : World) (hl : Rk .i64 p w lv l) (hs : I64 s) :
    Calls Tryd.prog 33 #[lv, zV s] w fun e w' => Gives .i64 2 (sL l s 62 (fun x => rdQ x s)) (sE l.length s 62) w e w' := by
  have HG : Hid (∀ (E : Int), Gives .i64 2 [] E w (.returned (.tuple #[.slice none 0 0, zV E])) w) := fun E => Gives.none _ _ _ _
  have HI : Hid (∀ x ∈ l, Fit .i64 x) := hl.all
  obtain ⟨ao, ac, hva, _⟩ := hl.shape
  subst hva
  by_cases h1 : 1048576 < l.length
  · rw [sL_bad (by rw [sE_many _ _ h1]; omega), sE_many _ _ h1]
    have h1' : (1048576 : Int) < (l.length : Int) := by omega
    clear hl
    go_enter Tryd.func33, Tryd.ntmps33
    go_wp2
    go_ret2
    exact HG.out _
  have h1' : ¬ (1048576 : Int) < (l.length : Int) := by omega
  by_cases h2 : s < 0
  · rw [sL_bad (by rw [sE_else h1 (.inl h2)]; omega), sE_else h1 (.inl h2)]
    clear hl
    go_enter Tryd.func33, Tryd.ntmps33
    go_wp2
    go_ret2
    exact HG.out _
  by_cases h3 : 62 < s
  · rw [sL_bad (by rw [sE_else h1 (.inr h3)]; omega), sE_else h1 (.inr h3)]
    have h2' : decide (s < 0) = false := by simp; omega
    clear hl
    go_enter Tryd.func33, Tryd.ntmps33
    go_wp2
    go_ret2
    exact HG.out _
  have e0 : sE l.length s 62 = 0 := sE_ok h1 (by omega)
  have HE : Hid (sL l s 62 (fun x => rdQ x s) = l.map (fun x => rdQ x s)) := if_pos e0
  have h2' : decide (s < 0) = false := by simp; omega
  have h3' : decide (62 < s) = false := by simp; omega
  obtain ⟨n, hn⟩ : ∃ n, l.length = n := ⟨_, rfl⟩
  have HN : Hid (l.length = n) := hn
  have HO : Hid ((w.alloc (.cells #[] 2)).ownsRow w.heap.size 2 1 (.slice (some ⟨w.heap.size, 0, none⟩) 0 0) 0 (((l.map (fun x => rdQ x s)).take 0).map zV) ∧ Fresh w (w.alloc (.cells #[] 2))) := ⟨own_empty w _ (Nat.le_refl _) _, (Kept.refl _ w).alloc _⟩
  rw [e0]
  rw [hn] at hl h1 h1' ⊢
  have HC : Hid (0 < n → ∃ b off, ao = some ⟨b, off, none⟩ ∧ ∀ W, Fresh w W → ∀ i, i < n → W.cell? ⟨b, off + i, none⟩ = some (.int .i64 (l.getD i 0))) := fun hp => by
    obtain ⟨b, off, e, _, hb, hcell⟩ := hl.cells.2.2.2 hp
    exact ⟨b, off, e, fun W hF i hi => (hF.cell (p := ⟨b, off + i, none⟩) hb (fun e => e)).trans (hcell i hi)⟩
  clear hl e0 hn
  have _ := hs
  go_enter Tryd.func33, Tryd.ntmps33
  go_wp2
  go_loopw [6, 23] (fun ov iv wr => ∃ j g cp : Nat, j ≤ n ∧ iv = zV j ∧ ov = .slice (some ⟨g, 0, none⟩) j cp ∧ Hid (wr.ownsRow w.heap.size 2 1 (.slice (some ⟨g, 0, none⟩) j cp) j (((l.map (fun x => rdQ x s)).take j).map zV) ∧ Fresh w wr)) (fun _ iv _ => n - (RowKit.intOf iv).toNat)
  case atStart => exact ⟨0, w.heap.size, 0, Nat.zero_le _, rfl, rfl, HO.out⟩
  case round =>
    obtain ⟨j, g, cp, hj, rfl, rfl, HA⟩ := hrel
    clear HO
    by_cases hlt : j < n
    · obtain ⟨b, off, rfl, hcell⟩ := HC.out (by omega)
      have g1 := hcell wr HA.out.2 j hlt
      have hlt' : (j : Int) < (n : Int) := by omega
      have hjl : j < l.length := by rw [HN.out]; exact hlt
      have HX8 : Hid (Fit .i64 (l.getD j 0)) := HI.out _ (by rw [getD_getElem hjl]; exact List.getElem_mem hjl)
      have HSt : Hid ((l.map (fun x => rdQ x s)).take (j + 1) = (l.map (fun x => rdQ x s)).take j ++ [(fun x => rdQ x s) (l.getD j 0)]) := map_snoc l _ hjl
      clear hcell hjl
      generalize l.getD j 0 = x at *
      have HR : Hid (Unit → _) := fun (_ : Unit) => refRound_any x s wr HX8.out
      go_wp2_with fail
      refine (HR.out ()).mono ?_
      rintro e w3 ⟨rfl, d3, hw3⟩
      have hO3 : w3.ownsRow w.heap.size 2 1 (.slice (some ⟨g, 0, none⟩) j cp) j (((l.map (fun x => rdQ x s)).take j).map zV) ∧ Fresh w w3 := by rw [hw3]; exact ⟨HA.out.1, HA.out.2.drewN d3⟩
      obtain ⟨ga, ca, Wa, hra, hoa, hga, hka⟩ := push ty64 w3 w.heap.size g cp j ((l.map (fun x => rdQ x s)).take j) (rdQ x s) hO3.1 (by simp [kb]; omega) hO3.2.size
      have hgb := (own_block hO3.1).1
      have HN1 : Hid (Wa.ownsRow w.heap.size 2 1 (.slice (some ⟨ga, 0, none⟩) (j + 1) ca) (j + 1) (((l.map (fun x => rdQ x s)).take (j + 1)).map zV) ∧ Fresh w Wa) := ⟨by rw [HSt.out]; exact hoa, hO3.2.trans hka (fun i hi e => by omega)⟩
      generalize rdQ x s = Q at *
      clear hO3 HA hw3 hoa hga hka hgb HSt HR
      go_wp2_with (at_builtin; refine Lib.wpList_append_run _ rfl _ _ _ _ rfl _ _ rfl rfl _ _ hra ?_)
      go_roundw
      case rel => exact ⟨j + 1, ga, ca, hlt, by go_num, rfl, HN1.out⟩
      case measure => simp [RowKit.intOf]; omega
    · obtain rfl : j = n := by omega
      have HX : Hid (Gives .i64 2 (sL l s 62 (fun x => rdQ x s)) 0 w (.returned (.tuple #[.slice (some ⟨g, 0, none⟩) j cp, zV 0])) wr) := by
        refine ⟨_, rfl, ?_, HA.out.2⟩
        have := HA.out.1
        rw [List.take_of_length_le (by rw [List.length_map, HN.out]; exact Nat.le_refl _)] at this
        rw [HE.out, List.length_map, HN.out]
        exact this
      clear HA HC
      go_wp2
      go_ret2
      exact HX.out


theorem map_sL (l : List Int) (s : Int) : sL l s 62 (fun x => clamp (rdQ x s) (-127) 127) = (sL l s 62 (fun x => rdQ x s)).map (fun x => clamp x (-127) 127) := by
  unfold sL
  split
  · rw [List.map_map]; rfl
  · rfl

set_option maxHeartbeats 4000000 in
set_option maxRecDepth 100000 in
theorem refShrink_any (p : Nat → Prop) (lv : Value) (l0 : List Int) (s : Int) (w : World) (hl : Rk .i64 p w lv l0) (hs : I64 s) :
    Calls Tryd.prog 50 #[lv, zV s] w fun e w' => Gives .i8 30 (sL l0 s 62 (fun x => clamp (rdQ x s) (-127) 127)) (sE l0.length s 62) w e w' := by
  have HS : Hid (Unit → _) := fun (_ : Unit) => refScale_any p lv l0 s w hl hs
  have HI0 : Hid ((sL l0 s 62 (fun x => rdQ x s)).length * kb .i64 ≤ 140737488351232 ∧ ∀ z ∈ sL l0 s 62 (fun x => rdQ x s), Fit .i64 z) := by
    refine ⟨by have := sL_len l0 s 62 (fun x => rdQ x s); simp [kb]; omega, fun z hz => ?_⟩
    unfold sL at hz
    split at hz
    · obtain ⟨x, hx, rfl⟩ := List.mem_map.1 hz
      exact rdQ_i64 (hl.all x hx)
    · cases hz
  have hln := sL_len l0 s 62 (fun x => rdQ x s)
  obtain ⟨ao0, ac0, hva, _⟩ := hl.shape
  subst hva
  rw [map_sL]
  obtain ⟨E, hE⟩ : ∃ E, E = sE l0.length s 62 := ⟨_, rfl⟩
  rw [← hE] at HS ⊢
  obtain ⟨l, hll⟩ : ∃ l, l = sL l0 s 62 (fun x => rdQ x s) := ⟨_, rfl⟩
  rw [← hll] at HS HI0 hln ⊢
  generalize l0.length = n0 at *
  clear hl hE hll
  go_enter Tryd.func50, Tryd.ntmps50
  go_wp2_with fail
  refine (HS.out ()).mono ?_
  rintro e w1 hG
  obtain ⟨v1, rfl, hR1, hF1⟩ := hG.row HI0.out.1 HI0.out.2
  obtain ⟨ao, ac, hva, _⟩ := hR1.shape
  subst hva
  obtain ⟨n, hn⟩ : ∃ n, l.length = n := ⟨_, rfl⟩
  have HN : Hid (l.length = n) := hn
  rw [hn] at hR1 hln ⊢
  have HC : Hid (0 < n → ∃ b off, ao = some ⟨b, off, none⟩ ∧ ∀ W, Fresh w1 W → ∀ i, i < n → W.cell? ⟨b, off + i, none⟩ = some (.int .i64 (l.getD i 0))) := fun hp => by
    obtain ⟨b, off, e, _, hb, hcell⟩ := hR1.cells.2.2.2 hp
    exact ⟨b, off, e, fun W hF i hi => (hF.cell (p := ⟨b, off + i, none⟩) hb (fun e => e)).trans (hcell i hi)⟩
  have HF1 : Hid (Fresh w w1) := hF1
  have HO : Hid ((w1.alloc (.cells #[] 30)).ownsRow w1.heap.size 30 1 (.slice (some ⟨w1.heap.size, 0, none⟩) 0 0) 0 (((l.map (fun x => clamp x (-127) 127)).take 0).map (Value.int .i8)) ∧ Fresh w1 (w1.alloc (.cells #[] 30))) := ⟨own_empty w1 _ (Nat.le_refl _) _, (Kept.refl _ w1).alloc _⟩
  clear hR1 hG hn HS hF1
  go_wp2
  go_loopw [8, 20] (fun ov iv wr => ∃ j g cp : Nat, j ≤ n ∧ iv = zV j ∧ ov = .slice (some ⟨g, 0, none⟩) j cp ∧ Hid (wr.ownsRow w1.heap.size 30 1 (.slice (some ⟨g, 0, none⟩) j cp) j (((l.map (fun x => clamp x (-127) 127)).take j).map (Value.int .i8)) ∧ Fresh w1 wr)) (fun _ iv _ => n - (RowKit.intOf iv).toNat)
  case atStart => exact ⟨0, w1.heap.size, 0, Nat.zero_le _, rfl, rfl, HO.out⟩
  case round =>
    obtain ⟨j, g, cp, hj, rfl, rfl, HA⟩ := hrel
    clear HO
    by_cases hlt : j < n
    · obtain ⟨b, off, rfl, hcell⟩ := HC.out (by omega)
      have g1 := hcell wr HA.out.2 j hlt
      have hlt' : (j : Int) < (n : Int) := by omega
      have hjl : j < l.length := by rw [HN.out]; exact hlt
      have HSt : Hid ((l.map (fun x => clamp x (-127) 127)).take (j + 1) = (l.map (fun x => clamp x (-127) 127)).take j ++ [clamp (l.getD j 0) (-127) 127]) := map_snoc l _ hjl
      clear hcell hjl
      generalize l.getD j 0 = x at *
      have HR : Hid (Unit → _) := fun (_ : Unit) => refNarrow_any x wr
      go_wp2_with fail
      refine (HR.out ()).mono ?_
      rintro e w3 ⟨rfl, d3, hw3⟩
      have hO3 : w3.ownsRow w1.heap.size 30 1 (.slice (some ⟨g, 0, none⟩) j cp) j (((l.map (fun x => clamp x (-127) 127)).take j).map (Value.int .i8)) ∧ Fresh w1 w3 := by rw [hw3]; exact ⟨HA.out.1, HA.out.2.drewN d3⟩
      obtain ⟨ga, ca, Wa, hra, hoa, hga, hka⟩ := push ty8 w3 w1.heap.size g cp j ((l.map (fun x => clamp x (-127) 127)).take j) (clamp x (-127) 127) hO3.1 (by simp [kb]; omega) hO3.2.size
      have hgb := (own_block hO3.1).1
      have HN1 : Hid (Wa.ownsRow w1.heap.size 30 1 (.slice (some ⟨ga, 0, none⟩) (j + 1) ca) (j + 1) (((l.map (fun x => clamp x (-127) 127)).take (j + 1)).map (Value.int .i8)) ∧ Fresh w1 Wa) := ⟨by rw [HSt.out]; exact hoa, hO3.2.trans hka (fun i hi e => by omega)⟩
      generalize clamp x (-127) 127 = Q at *
      clear hO3 HA hw3 hoa hga hka hgb HSt HR
      go_wp2_with (at_builtin; refine Lib.wpList_append_run _ rfl _ _ _ _ rfl _ _ rfl rfl _ _ hra ?_)
      go_roundw
      case rel => exact ⟨j + 1, ga, ca, hlt, by go_num, rfl, HN1.out⟩
      case measure => simp [RowKit.intOf]; omega
    · obtain rfl : j = n := by omega
      have HX : Hid (Gives .i8 30 (l.map (fun x => clamp x (-127) 127)) E w (.returned (.tuple #[.slice (some ⟨g, 0, none⟩) j cp, zV E])) wr) := by
        refine ⟨_, rfl, ?_, HF1.out.trans HA.out.2 (fun _ _ e => e)⟩
        have := HA.out.1
        rw [List.take_of_length_le (by rw [List.length_map, HN.out]; exact Nat.le_refl _)] at this
        rw [List.length_map, HN.out]
        exact own_low this HF1.out.size
      clear HA HC
      go_wp2
      go_ret2
      exact HX.out
end Go.Proofs.YtbppahmcjifflaaDoor
