/-
  For every list of numbers of 8 bits and every shift the statement VecWidens answers true: awake does; Widen is the document's; shrunk again it is the same, but for -128.
-/
import Derived.Test.YtjffiojjjmecgaaVcu
import Derived.Test.YtjffiojjjmecgaaVch
namespace Go.Proofs.Ytjffiojjjmecgaa.Widens8
open Go.ChangeShapes Go.WideShapes Go.ChangeAt Go.RowKit Go.Lib Go.Maps

theorem near_mul (x d : Int) (hd : 1 ≤ d) : near (x * d) d = x := by
  unfold near
  rw [Int.mul_emod_left, Int.mul_ediv_cancel _ (by omega), if_neg (by omega)]
theorem back {l : List Int} {s : Int} (h8 : ∀ x ∈ l, C8 x) (h0 : sE l.length s 55 = 0) : sE (sL l s 55 (fun x => x * 2 ^ s.toNat)).length s 62 = 0 ∧ sL (sL l s 55 (fun x => x * 2 ^ s.toNat)) s 62 (fun x => clamp (rdQ x s) (-127) 127) = l.map (fun x => if x < -127 then -127 else x) := by
  obtain ⟨h1, h2, h3⟩ := sE_zero h0
  have e1 : sL l s 55 (fun x => x * 2 ^ s.toNat) = l.map (fun x => x * 2 ^ s.toNat) := if_pos h0
  have e2 : sE (l.map (fun x => x * 2 ^ s.toNat)).length s 62 = 0 := sE_ok (by rw [List.length_map]; omega) (by omega)
  rw [e1]
  refine ⟨e2, ?_⟩
  unfold sL
  rw [if_pos e2, List.map_map]
  apply List.map_congr_left
  intro x hx
  have hp := pow62 s.toNat (by omega)
  have e3 : rdQ (x * 2 ^ s.toNat) s = x := by
    unfold rdQ
    rw [if_neg (by omega)]
    exact near_mul x _ hp.1
  show clamp (rdQ (x * 2 ^ s.toNat) s) (-127) 127 = _
  rw [e3]
  have := (h8 x hx).2
  unfold clamp
  split
  · rfl
  · rw [if_neg (by omega)]

set_option maxHeartbeats 8000000 in
set_option maxRecDepth 100000 in
theorem walk (lv : Value) (l : List Int) (s : Int) (w : World) (hl : Rk .i8 (fun b => b < w.heap.size) w lv l) (hs : I64 s) :
    Calls Try.prog 7 #[lv, zV s] w fun e w' => e = .returned (.bool true) ∧ Fresh w w' := by
  have HAW : Hid (Unit → _) := fun (_ : Unit) => awake_any w
  have HR : Hid (∀ W, Fresh w W → Rk .i8 (fun b => b < w.heap.size) W lv l) := fun W hF => hl.fresh hF
  have HS : Hid (I64 s) := hs
  have HI : Hid ((sL l s 55 (fun x => x * 2 ^ s.toNat)).length * kb .i64 ≤ 140737488351232 ∧ ∀ z ∈ sL l s 55 (fun x => x * 2 ^ s.toNat), Fit .i64 z) := by
    refine ⟨by have := sL_len l s 55 (fun x => x * 2 ^ s.toNat); simp [kb]; omega, fun z hz => ?_⟩
    unfold sL at hz
    split at hz
    · rename_i h0
      obtain ⟨h1, h2, h3⟩ := sE_zero h0
      obtain ⟨x, hx, rfl⟩ := List.mem_map.1 hz
      have := wide8 (hl.all x hx) (show s.toNat ≤ 55 by omega)
      exact ⟨by omega, by omega⟩
    · cases hz
  have HB : Hid (sE l.length s 55 = 0 → sE (sL l s 55 (fun x => x * 2 ^ s.toNat)).length s 62 = 0 ∧ sL (sL l s 55 (fun x => x * 2 ^ s.toNat)) s 62 (fun x => clamp (rdQ x s) (-127) 127) = l.map (fun x => if x < -127 then -127 else x)) := back hl.all
  have HZ : Hid (sE l.length s 55 ≠ 0 → sL l s 55 (fun x => x * 2 ^ s.toNat) = []) := sL_bad
  have H8 : Hid (∀ i, C8 (l.getD i 0)) := hl.get
  have hmany := hl.many
  obtain ⟨ao, ac, hva, _⟩ := hl.shape
  have HVa : Hid (lv = .slice ao l.length ac) := hva
  subst hva
  have HC : Hid (0 < l.length → ∃ b off, ao = some ⟨b, off, none⟩ ∧ ∀ W, Fresh w W → ∀ i, i < l.length → W.cell? ⟨b, off + i, none⟩ = some (.int .i8 (l.getD i 0))) := fun hp => by
    obtain ⟨b, off, e, _, hb, hcell⟩ := hl.cells.2.2.2 hp
    exact ⟨b, off, e, fun W hF i hi => (hF.cell (p := ⟨b, off + i, none⟩) hb (fun e => e)).trans (hcell i hi)⟩
  clear hl hs HVa
  go_enter Try.func7, Try.ntmps7
  go_wp2_with fail
  refine (HAW.out ()).mono ?_
  rintro e w1 ⟨rfl, hF1⟩
  have HF1 : Hid (Fresh w w1) := hF1
  have H1 : Hid (Unit → _) := fun (_ : Unit) => Widen_any _ _ l s w1 (HR.out w1 hF1) HS.out
  clear HAW hF1
  go_wp2_with fail
  refine (H1.out ()).mono ?_
  rintro e w2 hG
  obtain ⟨v2, rfl, hR2, hF2⟩ := hG.row HI.out.1 HI.out.2
  have HF2 : Hid (Fresh w w2) := HF1.out.trans hF2 (fun _ _ e => e)
  have HR2 : Hid (∀ W, Fresh w2 W → Rk .i64 (fun _ => True) W v2 (sL l s 55 (fun x => x * 2 ^ s.toNat))) := fun W hF => (hR2.fresh hF).mono (fun _ _ => trivial)
  obtain ⟨va, vc, hv2, _⟩ := hR2.shape
  clear H1 hG hR2 hF2 HF1
  have H2 : Hid (Unit → _) := fun (_ : Unit) => refWiden_any _ _ l s w2 (HR.out w2 HF2.out) HS.out
  subst hv2
  go_wp2_with fail
  refine (H2.out ()).mono ?_
  rintro e w3 hG
  obtain ⟨v3, rfl, hR3, hF3⟩ := hG.row HI.out.1 HI.out.2
  have HF3 : Hid (Fresh w2 w3) := hF3
  have H3 : Hid (Unit → _) := fun (_ : Unit) => same64_any _ _ _ _ _ w3 (HR2.out w3 hF3) hR3
  clear H2 hG hR3 hF3
  go_wp2_with fail
  refine (H3.out ()).mono ?_
  rintro e w4 ⟨rfl, n4, hw4⟩
  have HF4 : Hid (Fresh w2 w4) := by show Fresh _ _; rw [hw4]; exact HF3.out.drewN n4
  clear hw4 H3 HF3
  by_cases h0 : sE l.length s 55 = 0
  · obtain ⟨hb1, hb2⟩ := HB.out h0
    have hSh := Shrink_any _ _ _ s w4 (HR2.out w4 HF4.out) HS.out
    rw [hb1, hb2] at hSh
    have H5 : Hid (Unit → _) := fun (_ : Unit) => hSh
    rw [h0]
    have HI2 : Hid ((l.map (fun x => if x < -127 then -127 else x)).length * kb .i8 ≤ 140737488351232 ∧ ∀ z ∈ l.map (fun x => if x < -127 then (-127 : Int) else x), Fit .i8 z) := by
      refine ⟨by simp [kb]; omega, fun z hz => ?_⟩
      obtain ⟨x, hx, rfl⟩ := List.mem_map.1 hz
      obtain ⟨i, hi, rfl⟩ := List.getElem_of_mem hx
      have := H8.out i
      rw [getD_getElem hi] at this
      obtain ⟨a, b⟩ := this
      show C8 _
      unfold C8
      split <;> omega
    generalize (sL l s 55 (fun x => x * 2 ^ s.toNat)).length = m at *
    clear hSh hb1 hb2 h0 HB HZ
    go_wp2_with fail
    refine (H5.out ()).mono ?_
    rintro e w5 hG
    obtain ⟨v5, rfl, hR5, hF5⟩ := hG.row HI2.out.1 HI2.out.2
    have HF5 : Hid (Fresh w w5) := HF2.out.trans (HF4.out.trans hF5 (fun _ _ e => e)) (fun _ _ e => e)
    obtain ⟨ca, cc, hv5, _⟩ := hR5.shape
    rw [List.length_map] at hv5
    subst hv5
    obtain ⟨n, hn⟩ : ∃ n, l.length = n := ⟨_, rfl⟩
    have HN : Hid (l.length = n) := hn
    rw [hn] at HC hmany hR5 ⊢
    have HC5 : Hid (0 < n → ∃ b off, ca = some ⟨b, off, none⟩ ∧ ∀ W, Fresh w5 W → ∀ i, i < n → W.cell? ⟨b, off + i, none⟩ = some (.int .i8 (if l.getD i 0 < -127 then -127 else l.getD i 0))) := fun hp => by
      obtain ⟨b, off, e, _, hb, hcell⟩ := hR5.cells.2.2.2 hp
      refine ⟨b, off, e, fun W hF i hi => ?_⟩
      have h1 := (hF.cell (p := ⟨b, off + i, none⟩) hb (fun e => e)).trans (hcell i hi)
      rw [h1, List.getD_eq_getElem?_getD, List.getElem?_map, List.getD_eq_getElem?_getD, List.getElem?_eq_getElem (by rw [HN.out]; exact hi)]
      rfl
    clear hR5 hG hF5 H5 HF4 HI2 hn
    go_wp2
    go_loopw [57] (fun iv wr => ∃ j : Nat, j ≤ n ∧ iv = zV j ∧ wr = w5) (fun iv _ => n - (RowKit.intOf iv).toNat)
    case atStart => exact ⟨0, Nat.zero_le _, rfl, rfl⟩
    case round =>
      obtain ⟨j, hj, rfl, rfl⟩ := hrel
      by_cases hlt : j < n
      · obtain ⟨b, off, rfl, hcell⟩ := HC.out (by omega)
        obtain ⟨b5, off5, rfl, hcell5⟩ := HC5.out (by omega)
        have g1 := hcell wr HF5.out j hlt
        have g2 := hcell5 wr (Kept.refl _ _) j hlt
        obtain ⟨x0, x1⟩ := H8.out j
        have hlt' : (j : Int) < (n : Int) := by omega
        clear hcell hcell5
        generalize l.getD j 0 = x at *
        by_cases hx : x < -127
        · rw [if_pos hx] at g2
          have hx2 : ¬ -127 < x := by omega
          go_wp2
          go_roundw
          case rel => exact ⟨j + 1, hlt, by go_num, trivial⟩
          case measure => simp [RowKit.intOf]; omega
        · rw [if_neg hx] at g2
          go_wp2
          go_roundw
          case rel => exact ⟨j + 1, hlt, by go_num, trivial⟩
          case measure => simp [RowKit.intOf]; omega
      · obtain rfl : j = n := by omega
        clear HC HC5
        go_wp2
        go_ret
        exact ⟨rfl, HF5.out⟩
  · have HF5 : Hid (Fresh w w4) := HF2.out.trans HF4.out (fun _ _ e => e)
    have hz := HZ.out h0
    have hz2 : (sL l s 55 (fun x => x * 2 ^ s.toNat)).length = 0 := by rw [hz]; rfl
    have h0' : (sE l.length s 55 == 0) = false := by simp [h0]
    generalize (sL l s 55 (fun x => x * 2 ^ s.toNat)).length = m at *
    clear hz HB HZ HC HF4 HF2 HI
    subst hz2
    generalize sE l.length s 55 = E at *
    go_wp2
    go_ret
    exact ⟨by simp, HF5.out⟩

set_option maxRecDepth 100000 in
theorem contract (H : Type) (enc : TypeId × Value → H) (W : World) (base : Nat) (args : Array Value) (ds gs : List (DataW H)) (before : List MemPlace)
    (hval : ∀ (j : Nat) t v, Try.f7.params[j]? = some t → args[j]? = some v → Value.okWide Try.prog W .any base t v)
    (hW : DataW.Whole enc Try.prog Try.f7.params.toList Rows.vecWidensSpec.vars false W args.toList ds gs before) 
    (hsz : (DataW.weightsEach Try.prog (Try.f7.params.toList ++ []) (ds ++ gs)).all (· ≤ reachBytes) = true) (hL : laidMetH Try.prog Rows.vecWidensRow.laid W) :
    Calls Try.prog 7 args W fun e W' => ∃ v, e = .returned v ∧ Rows.vecWidensSpec.post enc Try.prog Try.f7 false true false false W args v W' := by
  have hW' := hW
  obtain ⟨p, q, hA0, hV, rfl, hfz, hnd⟩ := hW
  have hA : DataW.TrodAll enc Try.prog W 0 (fun _ => true) true Try.f7.params.toList args.toList ds p := hA0
  rw [Try.params7] at hA hval hsz
  obtain ⟨rfl, rfl⟩ := trodVars_none hV
  have _hL := hL
  obtain ⟨v0, v1, d0, d1, p0, p1, rfl, rfl, rfl, h0, h1⟩ := trodAll_two hA
  obtain ⟨ao, ln, cap, rfl⟩ := okWide_slice Try.underlying22 (hval 0 22 v0 rfl rfl)
  obtain ⟨x1, rfl, rfl, rfl, w1⟩ := open_int Try.underlying3 (hval 1 3 v1 rfl rfl) h1
  obtain ⟨fuel, hf⟩ := h0
  obtain ⟨l, hl, _⟩ := row_of ty8 (x := (d0, _)) hf (fun es sp e => by
    have e' : d0 = .slice es sp := e
    subst e'
    have := sized_slice hsz (j := 0) (t := 22) (e := 49) rfl rfl Try.underlying22
    rw [Try.b8] at this
    simp only [reachBytes] at this
    simp [kb]
    omega)
  refine (walk _ l x1 W hl (i64_of w1)).mono fun e W' ⟨he, hk⟩ => ?_
  subst he
  exact ⟨_, rfl, post_law rfl (by kernel_rfl) (by kernel_rfl) hW' rfl hk⟩

set_option maxRecDepth 100000 in
theorem laid_met (os : Os) : laidMet Try.prog Rows.vecWidensRow.laid ((layIn (World.holding Try.prog os ⟨#[], #[], []⟩)).forCall (fun _ _ => 0) ⟨#[], #[.slice none 0 0, .int .i64 0], []⟩).memory :=
  laidMet_of_run' 8 (by kernel_rfl) (by kernel_rfl)
set_option maxRecDepth 100000 in
theorem reads (os : Os) {H : Type} (enc : TypeId × Value → H) : ∃ places, DataW.whole enc Try.prog ((layIn (World.holding Try.prog os ⟨#[], #[], []⟩)).forCall (fun _ _ => 0) ⟨#[], #[.slice none 0 0, .int .i64 0], []⟩).memory Try.f7.params.toList Rows.vecWidensSpec.vars false (#[.slice none 0 0, .int .i64 0] : Array Value).toList 8 = some ([.nil, .lit (.int .i64 0)], [], places) :=
  ⟨[], by kernel_rfl⟩

set_option maxRecDepth 100000 in
theorem lifted (os : Os) (started : os.Started) (H : Type) (enc : TypeId × Value → H) (F : Stop.Interp) :
    ReturnsInHanded {} Try.checked os 7 .any ((OpenSpec.ofChange Rows.vecWidensSpec).preRow enc Try.prog Try.f7 Rows.vecWidensRow.domain false Rows.vecWidensRow.laid) (((OpenSpec.ofChange Rows.vecWidensSpec).at F).post enc Try.prog Try.f7 false true false false) := by
  obtain ⟨places, hx⟩ := reads os enc
  refine returnsInHanded_of_row (C := Try.checked) (s := OpenSpec.ofChange Rows.vecWidensSpec) Try.own started (by kernel_rfl) Try.func7
    (witness_row_at (enc := enc) (C := Try.checked) false (layIn (World.holding Try.prog os ⟨#[], #[], []⟩)) #[.slice none 0 0, .int .i64 0] rfl (by kernel_rfl) (by kernel_rfl) (by kernel_rfl)
      (OpenSpec.preRow_of_cond 8 hx (by kernel_rfl) (fun k hk => by cases hk) (by kernel_rfl) (laid_met os))) ?_
  intro W base args ds gs before hval hW _ hc hsz hL _ _
  exact contract H enc W base args ds gs before hval hW hsz hL

theorem said : Rows.VecWidensSaid :=
  OpenClaim.holds_of_cond 7 Try.f7 rfl rfl rfl rfl rfl rfl rfl ⟨rfl, rfl, rfl, rfl, rfl⟩ rfl rfl rfl rfl rfl (by kernel_rfl) Try.func7 (by kernel_rfl)
    (of_decide_eq_true (by kernel_rfl)) (by unfold Func.isWrapper; first | (rw [if_pos (by decide +kernel)]; kernel_rfl) | (rw [if_neg (by decide +kernel)]; exact ⟨rfl, rfl⟩))
    (fun os started H enc _ F => by rw [OpenClaim.pre_eq_preRow]; exact lifted os started H enc F)


end Go.Proofs.Ytjffiojjjmecgaa.Widens8
namespace Go.Proofs.Ytjffiojjjmecgaa
theorem vecWidens_holds : Rows.VecWidensSaid := Widens8.said
end Go.Proofs.Ytjffiojjjmecgaa
