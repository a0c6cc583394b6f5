/-
  Choose, the package's.
-/
import Derived.Test.YtbppahmcjifflaaDoorAcs
namespace Go.Proofs.YtbppahmcjifflaaDoor
open Go.RowKit Go.Lib Go.Maps

/-- What Choose answers. -/
def choE (w h : List Int) (s k : Int) : Int := if srE w h s ≠ 0 then srE w h s else if k < 1 ∨ ((scL w h s).length : Int) < k then 121 else 0
theorem choE_bad {w h : List Int} {s k : Int} (e : srE w h s ≠ 0) : choE w h s k = srE w h s := if_pos e
theorem choE_kind {w h : List Int} {s k : Int} (e : srE w h s = 0) (hk : k < 1 ∨ ((scL w h s).length : Int) < k) : choE w h s k = 121 := by unfold choE; rw [if_neg (by rw [e]; simp), if_pos hk]
theorem choE_ok {w h : List Int} {s k : Int} (e : srE w h s = 0) (hk : ¬ (k < 1 ∨ ((scL w h s).length : Int) < k)) : choE w h s k = 0 := by unfold choE; rw [if_neg (by rw [e]; simp), if_neg hk]
theorem choE_zero {w h : List Int} {s k : Int} (e : choE w h s k = 0) : srE w h s = 0 ∧ 1 ≤ k ∧ k ≤ (scL w h s).length := by
  unfold choE at e
  split at e
  · contradiction
  · split at e
    · cases e
    · exact ⟨by omega, by omega, by omega⟩
theorem scL_bound {w h : List Int} {s : Int} (hw : ∀ z ∈ w, C8 z) (hh : ∀ z ∈ h, C8 z) : ∀ i, -17179869184 ≤ (scL w h s).getD i 0 ∧ (scL w h s).getD i 0 ≤ 17179869184 := by
  intro i
  rcases Nat.lt_or_ge i (scL w h s).length with hi | hi
  · rw [getD_getElem hi]
    obtain ⟨y, hy, e⟩ := sL_mem (List.getElem_mem hi)
    rw [e]
    refine rdQ_bound (by omega) ?_ ?_
    all_goals
      unfold tL at hy
      split at hy
      · rename_i ht
        obtain ⟨h1, h2⟩ := tE_zero ht
        obtain ⟨hl, _⟩ := mE_zero h1
        unfold timesN at hy
        obtain ⟨r, _, rfl⟩ := List.mem_map.1 hy
        have hb := dotN_bound (part w (h.length : Int).toNat r) h (fun z hz => hw z (part_mem hz)) hh
        have hp : (part w (h.length : Int).toNat r).length ≤ 1048576 := by
          unfold part
          rw [List.length_take, List.length_drop]
          omega
        omega
      · cases hy
  · rw [List.getD_eq_getElem?_getD, List.getElem?_eq_none hi]
    exact ⟨by decide, by decide⟩
/-- A choice: which places, and their weights; or what is wrong. -/
def Chosen (w h : List Int) (s k : Int) (W : World) (e : Ending) (W' : World) : Prop :=
  Fresh W W' ∧ ((choE w h s k ≠ 0 ∧ e = .returned (.tuple #[.slice none 0 0, .slice none 0 0, zV (choE w h s k)])) ∨
    (choE w h s k = 0 ∧ ∃ o v1 v2, IsOrd (fun i => (scL w h s).getD i 0) (scL w h s).length o ∧ e = .returned (.tuple #[v1, v2, zV 0]) ∧ Rk .i64 (fun x => W.heap.size ≤ x ∧ x < W'.heap.size) W' v1 (upI (o.take k.toNat)) ∧ Rk .i64 (fun x => W.heap.size ≤ x ∧ x < W'.heap.size) W' v2 (wtL (scL w h s) (o.take k.toNat))))

set_option maxHeartbeats 2000000 in
set_option maxRecDepth 100000 in
theorem Choose_any (p q : Nat → Prop) (wv hv : Value) (ws h : List Int) (s k : Int) (w : World) (hB : Bend w) (hw : Rk .i8 p w wv ws) (hh : Rk .i8 q w hv h) (hs : I64 s) :
    Calls Tryd.prog 21 #[wv, hv, zV s, zV k] w fun e w' => Chosen ws h s k w e w' := by
  have HSc : Hid (Unit → _) := fun (_ : Unit) => scaled_any p q wv hv ws h s w hw hh hs
  have HI : Hid ((scL ws h s).length * kb .i64 ≤ 140737488351232 ∧ (∀ z ∈ scL ws h s, Fit .i64 z) ∧ (scL ws h s).length ≤ 1048576 ∧ ∀ i, -17179869184 ≤ (scL ws h s).getD i 0 ∧ (scL ws h s).getD i 0 ≤ 17179869184) := ⟨by have := scL_len ws h s; simp [kb]; omega, scL_i64 hw.all hh.all, scL_len _ _ _, scL_bound hw.all hh.all⟩
  have HBw : Hid (∀ W, Fresh w W → Bend W) := fun W hF => hB.fresh hF
  obtain ⟨ao, ac, rfl, _⟩ := hw.shape
  obtain ⟨bo, bc, rfl, _⟩ := hh.shape
  clear hB hw hh hs
  by_cases h0 : srE ws h s = 0
  · rw [h0] at HSc
    by_cases hk : k < 1 ∨ ((scL ws h s).length : Int) < k
    · have HE : Hid (choE ws h s k = 121) := choE_kind h0 hk
      have HX : Hid (∀ W', Fresh w W' → Chosen ws h s k w (.returned (.tuple #[.slice none 0 0, .slice none 0 0, zV 121])) W') := fun W' hF => ⟨hF, .inl ⟨by rw [HE.out]; decide, by rw [HE.out]⟩⟩
      clear HBw h0
      generalize scL ws h s = zs at *
      go_enter Tryd.func21, Tryd.ntmps21
      go_wp2_with fail
      refine (HSc.out ()).mono ?_
      rintro e w1 hg
      obtain ⟨v, rfl, hr, hF⟩ := hg.row HI.out.1 HI.out.2.1
      obtain ⟨zo, zc, rfl, _⟩ := hr.shape
      have HXX : Hid _ := HX.out w1 hF
      clear hg hr hF HSc HI HX
      by_cases hk1 : k < 1
      · go_wp2
        go_ret3
        exact HXX.out
      · have hk2 : (zs.length : Int) < k := by omega
        go_wp2
        go_ret3
        exact HXX.out
    · obtain ⟨K, rfl⟩ : ∃ K : Nat, k = K := ⟨k.toNat, by omega⟩
      have HE : Hid (choE ws h s K = 0) := choE_ok h0 hk
      unfold Chosen
      rw [Int.toNat_natCast, HE.out]
      clear HE h0
      generalize scL ws h s = zs at *
      have hk1 : 1 ≤ K := by omega
      have hk2 : K ≤ zs.length := by omega
      have hk3 : ¬ ((K : Nat) : Int) < 1 := by omega
      have hk4 : ¬ (zs.length : Int) < (K : Int) := by omega
      go_enter Tryd.func21, Tryd.ntmps21
      go_wp2_with fail
      refine (HSc.out ()).mono ?_
      rintro e w1 hg
      obtain ⟨v, rfl, hr, hF⟩ := hg.row HI.out.1 HI.out.2.1
      obtain ⟨zo, zc, rfl, _⟩ := hr.shape
      have HG : Hid (Unit → _) := fun (_ : Unit) => greatest_any _ _ zs K w1 hr hk1 hk2 HI.out.2.2.1
      have HR1 : Hid (∀ W, Fresh w1 W → _) := fun W hF => hr.fresh (W' := W) hF
      have HF1 : Hid (Fresh w w1) := hF
      clear hg hr hF HSc hk
      go_wp2_with fail
      refine (HG.out ()).mono ?_
      rintro e w2 ⟨o, v2, rfl, hO, hR2, hF2⟩
      obtain ⟨a2, c2, rfl, _⟩ := hR2.shape
      have hol := hO.length
      have hlk : (o.take K).length = K := by rw [List.length_take, hol]; omega
      have HW : Hid (Unit → _) := fun (_ : Unit) => weigh_any _ _ _ _ zs (o.take K) w2 (HBw.out w2 (HF1.out.trans hF2 (fun _ _ e => e))) (HR1.out w2 hF2) HI.out.2.2.2 hR2 (fun i hi => hO.lt (List.mem_of_mem_take hi)) (by omega) (by have := HI.out.2.2.1; omega)
      have HR2 : Hid (∀ W, Fresh w2 W → _) := fun W hF => hR2.fresh (W' := W) hF
      have HO : Hid (IsOrd (fun i => zs.getD i 0) zs.length o) := hO
      have HF2 : Hid (Fresh w w2) := HF1.out.trans hF2 (fun _ _ e => e)
      have HK : Hid ((o.take K).length = K ∧ zs.length ≤ 1048576 ∧ w.heap.size ≤ w1.heap.size ∧ w1.heap.size ≤ w2.heap.size) := ⟨hlk, HI.out.2.2.1, HF1.out.size, hF2.size⟩
      have hul : (upI (o.take K)).length = K := by rw [upI_length, hlk]
      rw [hlk] at HW
      rw [hul] at HW HR2 ⊢
      clear hO hR2 hF2 HG HR1 HF1 HI hol hlk hul HBw
      go_wp2_with fail
      refine (HW.out ()).mono ?_
      rintro e w3 ⟨g, rfl, hT⟩
      have HX : Hid (Fresh w w3 ∧ Rk .i64 (fun x => w.heap.size ≤ x ∧ x < w3.heap.size) w3 (.slice a2 K c2) (upI (o.take K)) ∧ Rk .i64 (fun x => w.heap.size ≤ x ∧ x < w3.heap.size) w3 (.slice (some ⟨g, 0, none⟩) K K) (wtL zs (o.take K))) := by
        obtain ⟨ho3, hF3⟩ := hT
        have hz3 := hF3.size
        refine ⟨HF2.out.trans hF3 (fun _ _ e => e), (HR2.out w3 hF3).mono (fun b hb => ⟨by have := HK.out.2.2.1; omega, by omega⟩), ?_⟩
        have hml : (wtL zs (o.take K)).length = K := by unfold wtL; rw [mkL_len]; exact HK.out.1
        have hb : ∀ z ∈ wtL zs (o.take K), Fit .i64 z := fun z hz => by
          obtain ⟨i, hi, rfl⟩ := mkL_mem hz
          have h1 := wgF_bound zs (o.take K) hi
          have h2 := msF_nonneg zs (o.take K) (by rw [HK.out.1]; exact hk1)
          have h3 := wgF_bound zs (o.take K) (show 0 < (o.take K).length by rw [HK.out.1]; omega)
          show I64 (wtF zs (o.take K) i)
          unfold wtF I64
          split <;> omega
        have h9 : w3.ownsRow w2.heap.size 2 1 (.slice (some ⟨g, 0, none⟩) K K) (wtL zs (o.take K)).length ((wtL zs (o.take K)).map (Value.int .i64)) := by
          rw [hml]
          unfold wtL
          rw [HK.out.1]
          exact ho3
        exact (rk_of_own h9 (by rw [hml]; have := HK.out.2.1; simp [kb]; omega) hb).mono (fun b hb => ⟨by have := HK.out.2.2; omega, hb.2⟩)
      clear hT HW HR2
      go_wp2
      go_ret3
      exact ⟨HX.out.1, .inr ⟨by first | rfl | trivial, o, _, _, HO.out, rfl, HX.out.2.1, HX.out.2.2⟩⟩
  · have HE : Hid (choE ws h s k = srE ws h s) := choE_bad h0
    have h0' : (srE ws h s == 0) = false := by simp [h0]
    have HX : Hid (∀ W', Fresh w W' → Chosen ws h s k w (.returned (.tuple #[.slice none 0 0, .slice none 0 0, zV (srE ws h s)])) W') := fun W' hF => ⟨hF, .inl ⟨by rw [HE.out]; exact h0, by rw [HE.out]⟩⟩
    clear HBw h0
    generalize srE ws h s = E at *
    go_enter Tryd.func21, Tryd.ntmps21
    go_wp2_with fail
    refine (HSc.out ()).mono ?_
    rintro e w1 hg
    obtain ⟨v, rfl, hr, hF⟩ := hg.row HI.out.1 HI.out.2.1
    have HXX : Hid _ := HX.out w1 hF
    clear hg hr hF HSc HI HX
    go_wp2
    go_ret3
    exact HXX.out
end Go.Proofs.YtbppahmcjifflaaDoor
