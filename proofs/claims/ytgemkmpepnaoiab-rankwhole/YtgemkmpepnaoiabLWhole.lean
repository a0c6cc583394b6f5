/-
  For every list of int64 and every whole the statement RankWhole answers true: awake does; shares sum to the whole, each is less than 1 off the true one, none of a remainder 0 gets more, a greater weight never gets less; of what may not be the error is the document's.
-/
import Derived.Test.YtgemkmpepnaoiabRkn
namespace Go.Proofs.Ytgemkmpepnaoiab.LWhole
open Go.ChangeShapes Go.WideShapes Go.ChangeAt Go.RowKit

theorem take_bounds (L : List Int) (c : Int) (hc : 0 ≤ c) (h : ∀ i, 0 ≤ L.getD i 0 ∧ L.getD i 0 ≤ c) : ∀ j, j ≤ L.length → 0 ≤ (L.take j).sum ∧ (L.take j).sum ≤ j * c
  | 0, _ => by simp
  | j + 1, hj => by
    have h1 := take_bounds L c hc h j (by omega)
    have h2 := h j
    rw [take_sum_succ L j hj, Int.natCast_add, Int.add_mul]
    omega

set_option maxHeartbeats 4000000 in
set_option maxRecDepth 100000 in
theorem walk (rv : Value) (zs : List Int) (T : Int) (w : World) (hr : Rw (fun b => b < w.heap.size) w rv zs) (hT : I64 T) :
    Calls Try.prog 3 #[rv, zV T] w fun e w' => e = .returned (.bool true) ∧ Fresh w w' := by
  have HT' : Hid (I64 T) := hT
  obtain ⟨ao, cap, hv, _⟩ := id hr
  subst hv
  have hln := hr.len
  obtain ⟨n, hn⟩ : ∃ n, zs.length = n := ⟨_, rfl⟩
  have HS : Hid (Unit → _) := fun (_ : Unit) => share_any _ zs T w hr hT
  have HR : Hid (∀ W, Fresh w W → Rw (fun b => b < w.heap.size) W (.slice ao n cap) zs) := fun W hF => by rw [← hn]; exact hr.fresh hF
  rw [hn] at HS ⊢
  have HN : Hid (zs.length = n) := hn
  clear hr hT hn
  go_enter Try.func3, Try.ntmps3
  go_wp2_with fail
  refine (HS.out ()).mono ?_
  rintro e W1 ⟨v1, rfl, L, hL, hown1, hF1⟩
  have HRS : Hid (Unit → _) := fun (_ : Unit) => refShare_any _ _ zs T W1 (HR.out W1 hF1) HT'.out
  have HL : Hid (ShIs zs T L) := hL
  have HO1 : Hid (W1.ownsRow w.heap.size 2 1 v1 L.length (L.map zV) ∧ Fresh w W1) := ⟨hown1, hF1⟩
  clear hL hown1 hF1 HS
  go_wp2_with fail
  refine (HRS.out ()).mono ?_
  rintro e W2 ⟨v2, rfl, L2, hL2, hown2, hF2⟩
  have HW2 : Hid (W2.ownsRow w.heap.size 2 1 v1 L.length (L.map zV) ∧ Fresh w W2) := ⟨owns_kept HO1.out.1 hF2 (fun _ _ e => e), HO1.out.2.trans hF2 (fun _ _ e => e)⟩
  have HAW : Hid (∀ n, _) := fun (n : Nat) => awake_any (W2.drewN n)
  clear hL2 hown2 hF2 HO1 HRS
  by_cases he : sE zs T = 0
  · have HWh : Hid (Whole zs T zs.sum L) := whole_of HL.out he
    have hT1 : 1 ≤ T ∧ T ≤ 4294967296 := by
      by_cases e : T < 1 ∨ 4294967296 < T
      · rw [sE_bad e] at he; omega
      · omega
    obtain ⟨hT1, hT2⟩ := hT1
    have hwe : wE zs = 0 := by rw [← sE_ok (zs := zs) hT1 hT2]; exact he
    obtain ⟨hn4, hz, _, hS⟩ := wE_zero hwe
    rw [HN.out] at hn4
    obtain ⟨S, hSe⟩ : ∃ S, zs.sum = S := ⟨_, rfl⟩
    rw [hSe] at HWh hS
    have HZ : Hid ((∀ i, i < n → Wt (zs.getD i 0)) ∧ zs.sum = S ∧ L.length = n) := ⟨fun i hi => hz _ (by rw [← HN.out] at hi; rw [List.getD_eq_getElem?_getD, List.getElem?_eq_getElem hi]; exact List.getElem_mem hi), hSe, HWh.out.len.trans HN.out⟩
    have hSb : S ≤ 4398046511104 := by
      have := (sum_bounds zs hz).2
      rw [hSe, HN.out] at this
      have : (n : Int) * 1073741824 ≤ 4096 * 1073741824 := by omega
      omega
    have HLb : Hid (∀ i, 0 ≤ L.getD i 0 ∧ L.getD i 0 ≤ 4294967297) := fun i => by
      rcases Nat.lt_or_ge i n with h | h
      · have h1 := HWh.out.low i (by rw [HN.out]; exact h)
        have h2 := HWh.out.high i (by rw [HN.out]; exact h)
        have h3 := flL_bound (zs := zs) (T := T) (S := S) hz (by omega) hSe.symm hS i
        rw [List.getD_eq_getElem?_getD, flL_get _ _ _ _ (by rw [HN.out]; exact h), Option.getD_some] at h3
        omega
      · rw [List.getD_eq_getElem?_getD, List.getElem?_eq_none (by rw [HZ.out.2.2]; exact h)]
        exact ⟨by decide, by decide⟩
    have hn0 : 0 < n := by
      rcases Nat.eq_zero_or_pos n with e | e
      · have h4 : zs = [] := List.eq_nil_of_length_eq_zero (by rw [HN.out]; exact e)
        rw [h4] at hSe
        simp at hSe
        omega
      · exact e
    rw [HZ.out.2.2] at HW2
    obtain ⟨g, c1, rfl⟩ : ∃ g c1, v1 = .slice (some ⟨g, 0, none⟩) n c1 := by
      rcases HW2.out.1.2 with ⟨_, e⟩ | ⟨g', cap', cur, hv, _⟩
      · omega
      · exact ⟨g', cap', hv⟩
    obtain ⟨lb, off, rfl, hcl⟩ : ∃ b off, ao = some ⟨b, off, none⟩ ∧ ∀ i, i < n → W2.cell? ⟨b, off + i, none⟩ = some (zV (zs.getD i 0)) := by
      obtain ⟨ao', cap', hv', _, hc, _⟩ := HR.out W2 HW2.out.2
      cases hv'
      obtain ⟨b, off, e, _, _, hcell⟩ := hc (fun e => by rw [e] at hn0; simp at hn0)
      exact ⟨b, off, e, fun i hi => hcell i (by rw [HN.out]; exact hi)⟩
    have HCl : Hid (∀ i, i < n → W2.cell? ⟨lb, off + i, none⟩ = some (zV (zs.getD i 0))) := hcl
    have HCa : Hid (∀ i, i < n → W2.cell? ⟨g, i, none⟩ = some (zV (L.getD i 0))) := fun i hi => by
      rw [HW2.out.1.cellAt i (by omega), List.getElem?_map, List.getD_eq_getElem?_getD, List.getElem?_eq_getElem (by rw [HZ.out.2.2]; exact hi)]; rfl
    have HF2 : Hid (Fresh w W2) := HW2.out.2
    have hSn : ¬ S = 0 := by omega
    clear hcl HW2 hz hwe HR hSe HL
    rw [he]
    go_wp2
    go_loopw [9, 10, 11] (fun av sv iv wr => ∃ j : Nat, j ≤ n ∧ iv = zV j ∧ av = zV (zs.take j).sum ∧ sv = zV (L.take j).sum ∧ wr = W2) (fun _ _ iv _ => n - (RowKit.intOf iv).toNat)
    case atStart => exact ⟨0, Nat.zero_le _, rfl, rfl, rfl, rfl⟩
    case round =>
      obtain ⟨j, hj, rfl, rfl, rfl, hwr⟩ := hrel
      have hwr2 := hwr.symm
      subst hwr2
      clear hwr
      have hb1 := take_bounds zs 1073741824 (by decide) (fun i => by
        rcases Nat.lt_or_ge i n with h | h
        · exact HZ.out.1 i h
        · rw [List.getD_eq_getElem?_getD, List.getElem?_eq_none (by rw [HN.out]; exact h)]; exact ⟨by decide, by decide⟩) j (by rw [HN.out]; exact hj)
      have hb2 := take_bounds L 4294967297 (by decide) HLb.out j (by rw [HZ.out.2.2]; exact hj)
      have hjm : (j : Int) ≤ 4096 := by omega
      have hj1 : (j : Int) * 1073741824 ≤ 4096 * 1073741824 := by omega
      have hj2 : (j : Int) * 4294967297 ≤ 4096 * 4294967297 := by omega
      by_cases hlt : j < n
      · have c1' := HCl.out j hlt
        have c2' := HCa.out j hlt
        have hw := HZ.out.1 j hlt
        have hl := HLb.out j
        obtain ⟨x0, x1⟩ := hw
        have HS1 : Hid ((zs.take (j + 1)).sum = (zs.take j).sum + zs.getD j 0 ∧ (L.take (j + 1)).sum = (L.take j).sum + L.getD j 0) := ⟨take_sum_succ _ _ (by rw [HN.out]; exact hlt), take_sum_succ _ _ (by rw [HZ.out.2.2]; exact hlt)⟩
        have hlt' : (j : Int) < (n : Int) := by omega
        generalize zs.getD j 0 = x at *
        generalize L.getD j 0 = y at *
        generalize (zs.take j).sum = A at *
        generalize (L.take j).sum = B at *
        go_wp2
        go_roundw
        case rel => exact ⟨j + 1, hlt, by go_num, by rw [HS1.out.1], by rw [HS1.out.2], trivial⟩
        case measure => simp [RowKit.intOf]; omega
      · obtain rfl : j = n := by omega
        have e1 : (zs.take j).sum = S := by rw [List.take_of_length_le (by rw [HN.out]; exact Nat.le_refl _)]; exact HZ.out.2.1
        have e2 : (L.take j).sum = T := by rw [List.take_of_length_le (by rw [HZ.out.2.2]; exact Nat.le_refl _)]; exact HWh.out.sum
        rw [e1, e2]
        clear e1 e2 hb1 hb2 hj1 hj2 hjm hlt
        go_wp2
        go_loopw [12] (fun iv wr => ∃ i : Nat, i ≤ j ∧ iv = zV i ∧ ∃ d, wr = W2.drewN d) (fun iv _ => j - (RowKit.intOf iv).toNat)
        case atStart => exact ⟨0, Nat.zero_le _, rfl, 0, rfl⟩
        case round =>
          obtain ⟨i, hi, rfl, d, rfl⟩ := hrel
          by_cases hil : i < j
          · have hin : i < zs.length := by rw [HN.out]; exact hil
            have c1' := HCl.out i hil
            have c2' := HCa.out i hil
            have hw := HZ.out.1 i hil
            have hlb := HLb.out i
            have w1 := HWh.out.low i hin
            have w2 := HWh.out.high i hin
            have w3 := HWh.out.rest i hin
            have HOrd : Hid (∀ k, k < j → zs.getD i 0 < zs.getD k 0 → L.getD i 0 ≤ L.getD k 0) := fun k hk h => HWh.out.order i k hin (by rw [HN.out]; exact hk) h
            have hil' : (i : Int) < (j : Int) := by omega
            obtain ⟨x0, x1⟩ := hw
            obtain ⟨x, hx⟩ : ∃ x, zs.getD i 0 = x := ⟨_, rfl⟩
            obtain ⟨y, hy⟩ : ∃ y, L.getD i 0 = y := ⟨_, rfl⟩
            obtain ⟨P, hP⟩ : ∃ P, x * T = P := ⟨_, rfl⟩
            rw [hx] at x0 x1 c1' w1 w2 w3 HOrd
            rw [hy] at c2' w1 w2 w3 HOrd hlb
            rw [hP] at w1 w2 w3
            have hP0 : 0 ≤ P := by rw [← hP]; exact Int.mul_nonneg x0 (by omega)
            have hP1 : P ≤ 4611686018427387904 := by
              rw [← hP]
              have q1 := Int.mul_le_mul_of_nonneg_right x1 (show (0 : Int) ≤ T by omega)
              have q2 : 1073741824 * T ≤ 4611686018427387904 := by omega
              omega
            have hq : P.tdiv S = P / S := Int.tdiv_eq_ediv_of_nonneg hP0
            have hr : P.tmod S = P % S := Int.tmod_eq_emod_of_nonneg hP0
            have b1 : 0 ≤ P / S := Int.ediv_nonneg hP0 (Int.le_of_lt hS)
            have b3 : 0 ≤ P % S := Int.emod_nonneg _ hSn
            clear hx hy hin
            generalize P / S = fq at *
            generalize P % S = rq at *
            have t1 : ¬ y < fq := by omega
            have t2 : ¬ fq + 1 < y := by omega
            obtain ⟨l0, l1⟩ := hlb
            by_cases t3 : fq < y
            · have t4 : ¬ rq = 0 := w3 t3
              clear w3 w1 w2
              go_wp2
              go_loopw [14] (fun kv wr => ∃ k : Nat, k ≤ j ∧ kv = zV k ∧ ∃ d, wr = W2.drewN d) (fun kv _ => j - (RowKit.intOf kv).toNat)
              case atStart => exact ⟨0, Nat.zero_le _, rfl, d, rfl⟩
              case round =>
                obtain ⟨k, hk, rfl, d2, rfl⟩ := hrel
                by_cases hkl : k < j
                · have k1 := HCl.out k hkl
                  have k2 := HCa.out k hkl
                  have k3 := HOrd.out k hkl
                  have hkl' : (k : Int) < (j : Int) := by omega
                  generalize zs.getD k 0 = u at *
                  generalize L.getD k 0 = v at *
                  by_cases hux : x < u
                  · have k4 : ¬ v < y := by have := k3 hux; omega
                    clear k3
                    go_wp2_with fail
                    go_quiet (fail)
                    go_wp2
                    go_roundw
                    case rel => exact ⟨k + 1, hkl, by go_num, d2 + nq, rfl⟩
                    case measure => simp [RowKit.intOf]; omega
                  · have hux' : decide (x < u) = false := by simp; omega
                    clear k3
                    go_wp2_with fail
                    go_quiet (fail)
                    go_wp2
                    go_roundw
                    case rel => exact ⟨k + 1, hkl, by go_num, d2 + nq, rfl⟩
                    case measure => simp [RowKit.intOf]; omega
                · obtain rfl : k = j := by omega
                  clear HOrd
                  go_wp2
                  go_roundw
                  case rel => exact ⟨i + 1, hil, by go_num, d2, rfl⟩
                  case measure => simp [RowKit.intOf]; omega
            · clear w3 w1 w2
              go_wp2
              go_loopw [14] (fun kv wr => ∃ k : Nat, k ≤ j ∧ kv = zV k ∧ ∃ d, wr = W2.drewN d) (fun kv _ => j - (RowKit.intOf kv).toNat)
              case atStart => exact ⟨0, Nat.zero_le _, rfl, d, rfl⟩
              case round =>
                obtain ⟨k, hk, rfl, d2, rfl⟩ := hrel
                by_cases hkl : k < j
                · have k1 := HCl.out k hkl
                  have k2 := HCa.out k hkl
                  have k3 := HOrd.out k hkl
                  have hkl' : (k : Int) < (j : Int) := by omega
                  generalize zs.getD k 0 = u at *
                  generalize L.getD k 0 = v at *
                  by_cases hux : x < u
                  · have k4 : ¬ v < y := by have := k3 hux; omega
                    clear k3
                    go_wp2_with fail
                    go_quiet (fail)
                    go_wp2
                    go_roundw
                    case rel => exact ⟨k + 1, hkl, by go_num, d2 + nq, rfl⟩
                    case measure => simp [RowKit.intOf]; omega
                  · have hux' : decide (x < u) = false := by simp; omega
                    clear k3
                    go_wp2_with fail
                    go_quiet (fail)
                    go_wp2
                    go_roundw
                    case rel => exact ⟨k + 1, hkl, by go_num, d2 + nq, rfl⟩
                    case measure => simp [RowKit.intOf]; omega
                · obtain rfl : k = j := by omega
                  clear HOrd
                  go_wp2
                  go_roundw
                  case rel => exact ⟨i + 1, hil, by go_num, d2, rfl⟩
                  case measure => simp [RowKit.intOf]; omega
          · obtain rfl : i = j := by omega
            have HAWd : Hid (Unit → _) := fun (_ : Unit) => HAW.out d
            go_wp2_with fail
            refine (HAWd.out ()).mono ?_
            rintro e W3 ⟨rfl, hF3⟩
            have HF3 : Hid (Fresh w W3) := (HF2.out.drewN d).trans hF3 (fun _ _ e => e)
            clear hF3 HAWd HAW
            go_wp2
            go_ret
            exact ⟨by simp, HF3.out⟩
  · have HE : Hid (L = []) := by
      rcases HL.out with ⟨_, h⟩ | ⟨h, _⟩
      · exact h
      · exact absurd h he
    have hL0 := HE.out
    subst hL0
    have hsh := ownsRow_shape HW2.out.1
    obtain ⟨a1, c1, rfl⟩ := hsh
    simp only [List.length_nil]
    have HF2 : Hid (Fresh w W2) := HW2.out.2
    have he' : (sE zs T == 0) = false := by simp [he]
    have HAW0 : Hid (Unit → _) := fun (_ : Unit) => awake_any W2
    clear HW2 HL HR HAW
    generalize sE zs T = E at *
    go_wp2_with fail
    refine (HAW0.out ()).mono ?_
    rintro e W3 ⟨rfl, hF3⟩
    have HF3 : Hid (Fresh w W3) := HF2.out.trans hF3 (fun _ _ e => e)
    clear hF3
    go_wp2
    go_ret
    exact ⟨by simp, HF3.out⟩

set_option maxRecDepth 100000 in
theorem contract (H : Type) (enc : TypeId × Value → H) (W : World) (base : Nat) (args : Array Value) (ds gs : List (DataW H)) (before : List MemPlace)
    (hval : ∀ (j : Nat) t v, Try.f3.params[j]? = some t → args[j]? = some v → Value.okWide Try.prog W .any base t v)
    (hW : DataW.Whole enc Try.prog Try.f3.params.toList Rows.rankWholeSpec.vars false W args.toList ds gs before) 
    (hsz : (DataW.weightsEach Try.prog (Try.f3.params.toList ++ []) (ds ++ gs)).all (· ≤ reachBytes) = true) (hL : laidMetH Try.prog Rows.rankWholeRow.laid W) :
    Calls Try.prog 3 args W fun e W' => ∃ v, e = .returned v ∧ Rows.rankWholeSpec.post enc Try.prog Try.f3 false true false false W args v W' := by
  have hW' := hW
  obtain ⟨p, q, hA0, hV, rfl, hfz, hnd⟩ := hW
  have hA : DataW.TrodAll enc Try.prog W 0 (fun _ => true) true Try.f3.params.toList args.toList ds p := hA0
  rw [Try.params3] at hA hval hsz
  obtain ⟨rfl, rfl⟩ := trodVars_none hV
  have _hL := hL
  obtain ⟨v0, v1, d0, d1, p0, p1, rfl, rfl, rfl, h0, h1⟩ := trodAll_two hA
  obtain ⟨ao, ln, cap, rfl⟩ := okWide_slice Try.underlying22 (hval 0 22 v0 rfl rfl)
  obtain ⟨x1, rfl, rfl, rfl, w1⟩ := open_int Try.underlying2 (hval 1 2 v1 rfl rfl) h1
  obtain ⟨fuel, hf⟩ := h0
  obtain ⟨zs, hr, _⟩ := rw_of (x := (d0, _)) hf (fun es sp e => by
    have e' : d0 = .slice es sp := e
    subst e'
    have := sized_slice hsz (j := 0) (t := 22) (e := 2) rfl rfl Try.underlying22
    rw [Try.b64] at this
    simp only [reachBytes] at this
    omega)
  refine (walk _ zs x1 W hr (i64_of w1)).mono fun e W' ⟨he, hk⟩ => ?_
  subst he
  exact ⟨_, rfl, post_law rfl (by kernel_rfl) (by kernel_rfl) hW' rfl hk⟩

set_option maxRecDepth 100000 in
theorem laid_met (os : Os) : laidMet Try.prog Rows.rankWholeRow.laid ((layIn (World.holding Try.prog os ⟨#[], #[], []⟩)).forCall (fun _ _ => 0) ⟨#[], #[.slice none 0 0, .int .i64 0], []⟩).memory :=
  laidMet_of_run' 8 (by kernel_rfl) (by kernel_rfl)
set_option maxRecDepth 100000 in
theorem reads (os : Os) {H : Type} (enc : TypeId × Value → H) : ∃ places, DataW.whole enc Try.prog ((layIn (World.holding Try.prog os ⟨#[], #[], []⟩)).forCall (fun _ _ => 0) ⟨#[], #[.slice none 0 0, .int .i64 0], []⟩).memory Try.f3.params.toList Rows.rankWholeSpec.vars false (#[.slice none 0 0, .int .i64 0] : Array Value).toList 8 = some ([.nil, .lit (.int .i64 0)], [], places) :=
  ⟨[], by kernel_rfl⟩

set_option maxRecDepth 100000 in
theorem lifted (os : Os) (started : os.Started) (H : Type) (enc : TypeId × Value → H) (F : Stop.Interp) :
    ReturnsInHanded {} Try.checked os 3 .any ((OpenSpec.ofChange Rows.rankWholeSpec).preRow enc Try.prog Try.f3 Rows.rankWholeRow.domain false Rows.rankWholeRow.laid) (((OpenSpec.ofChange Rows.rankWholeSpec).at F).post enc Try.prog Try.f3 false true false false) := by
  obtain ⟨places, hx⟩ := reads os enc
  refine returnsInHanded_of_row (C := Try.checked) (s := OpenSpec.ofChange Rows.rankWholeSpec) Try.own started (by kernel_rfl) Try.func3
    (witness_row_at (enc := enc) (C := Try.checked) false (layIn (World.holding Try.prog os ⟨#[], #[], []⟩)) #[.slice none 0 0, .int .i64 0] rfl (by kernel_rfl) (by kernel_rfl) (by kernel_rfl)
      (OpenSpec.preRow_of_cond 8 hx (by kernel_rfl) (fun k hk => by cases hk) (by kernel_rfl) (laid_met os))) ?_
  intro W base args ds gs before hval hW _ hc hsz hL _ _
  exact contract H enc W base args ds gs before hval hW hsz hL

theorem said : Rows.RankWholeSaid :=
  OpenClaim.holds_of_cond 3 Try.f3 rfl rfl rfl rfl rfl rfl rfl ⟨rfl, rfl, rfl, rfl, rfl⟩ rfl rfl rfl rfl rfl (by kernel_rfl) Try.func3 (by kernel_rfl)
    (of_decide_eq_true (by kernel_rfl)) (by unfold Func.isWrapper; first | (rw [if_pos (by decide +kernel)]; kernel_rfl) | (rw [if_neg (by decide +kernel)]; exact ⟨rfl, rfl⟩))
    (fun os started H enc _ F => by rw [OpenClaim.pre_eq_preRow]; exact lifted os started H enc F)


end Go.Proofs.Ytgemkmpepnaoiab.LWhole
namespace Go.Proofs.Ytgemkmpepnaoiab
theorem rankWhole_holds : Rows.RankWholeSaid := LWhole.said
end Go.Proofs.Ytgemkmpepnaoiab
