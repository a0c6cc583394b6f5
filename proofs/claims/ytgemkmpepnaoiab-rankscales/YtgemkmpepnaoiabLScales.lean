/-
  For every list of int64, every whole and every factor the statement RankScales answers true: awake does; with all weights multiplied by one number the shares are the same.
-/
import Derived.Test.YtgemkmpepnaoiabRkl
namespace Go.Proofs.Ytgemkmpepnaoiab.Scales7
open Go.ChangeShapes Go.WideShapes Go.ChangeAt Go.RowKit

def mulL (zs : List Int) (k : Int) : List Int := zs.map (fun z => z * k)
theorem mulL_length (zs : List Int) (k : Int) : (mulL zs k).length = zs.length := by simp [mulL]
theorem mulL_succ (zs : List Int) (k : Int) (j : Nat) (h : j < zs.length) : mulL (zs.take (j + 1)) k = mulL (zs.take j) k ++ [zs.getD j 0 * k] := by
  unfold mulL
  rw [List.take_succ_eq_append_getElem h, List.map_append, List.getD_eq_getElem?_getD, List.getElem?_eq_getElem h]
  rfl
theorem mulL_sum (k : Int) : ∀ zs : List Int, (mulL zs k).sum = zs.sum * k
  | [] => by simp [mulL]
  | z :: r => by
    have := mulL_sum k r
    simp only [mulL, List.map_cons, List.sum_cons] at this ⊢
    rw [this, Int.add_mul]
theorem same_wE {zs : List Int} {k : Int} (hk : 1 ≤ k) (hz : ∀ z ∈ zs, 0 ≤ z ∧ z * k ≤ 1073741824) : wE (mulL zs k) = wE zs := by
  have h1 : ∀ z ∈ zs, Wt z := fun z hm => by
    have h := hz z hm
    have := Int.mul_le_mul_of_nonneg_left hk h.1
    exact ⟨h.1, by omega⟩
  have h2 : ∀ z ∈ mulL zs k, Wt z := fun z hm => by
    obtain ⟨y, hy, rfl⟩ := List.mem_map.1 hm
    have h := hz y hy
    exact ⟨Int.mul_nonneg h.1 (by omega), h.2⟩
  rcases Nat.lt_or_ge 4096 zs.length with e | e
  · rw [wE_many e, wE_many (by rw [mulL_length]; exact e)]
  · by_cases e0 : zs.sum = 0
    · rw [wE_none e h1 e0, wE_none (by rw [mulL_length]; exact e) h2 (by rw [mulL_sum, e0, Int.zero_mul])]
    · rw [wE_ok e h1 e0, wE_ok (by rw [mulL_length]; exact e) h2 (by rw [mulL_sum]; exact Int.mul_ne_zero e0 (by omega))]
theorem same_sE {zs : List Int} {k T : Int} (hk : 1 ≤ k) (hz : ∀ z ∈ zs, 0 ≤ z ∧ z * k ≤ 1073741824) : sE (mulL zs k) T = sE zs T := by
  unfold sE
  rw [same_wE hk hz]
theorem same_shares {zs : List Int} {k T : Int} {L : List Int} (hk : 1 ≤ k) (hz : ∀ z ∈ zs, 0 ≤ z ∧ z * k ≤ 1073741824) (h : ShIs (mulL zs k) T L) : ShIs zs T L := by
  rcases h with ⟨h0, h⟩ | ⟨h0, o, hO, h⟩
  · exact .inl ⟨by rw [← same_sE hk hz]; exact h0, h⟩
  · have h0' : sE zs T = 0 := by rw [← same_sE hk hz]; exact h0
    have hfl : flL (mulL zs k) T (mulL zs k).sum = flL zs T zs.sum := by
      rw [mulL_sum]
      unfold flL mulL
      rw [List.map_map]
      apply List.map_congr_left
      intro z _
      show z * k * T / (zs.sum * k) = z * T / zs.sum
      rw [Int.mul_right_comm z k T]
      exact Int.mul_ediv_mul_of_pos_left _ _ (by omega)
    have hrs : ∀ i, (rsL (mulL zs k) T (mulL zs k).sum).getD i 0 = (rsL zs T zs.sum).getD i 0 * k := by
      intro i
      have : rsL (mulL zs k) T (mulL zs k).sum = (rsL zs T zs.sum).map (fun x => x * k) := by
        rw [mulL_sum]
        unfold rsL mulL
        rw [List.map_map, List.map_map]
        apply List.map_congr_left
        intro z _
        show z * k * T % (zs.sum * k) = z * T % zs.sum * k
        rw [Int.mul_right_comm z k T]
        rw [Int.mul_comm (z * T) k, Int.mul_comm zs.sum k, Int.mul_emod_mul_of_pos _ _ (by omega), Int.mul_comm]
      rw [this, List.getD_eq_getElem?_getD, List.getElem?_map, List.getD_eq_getElem?_getD]
      cases (rsL zs T zs.sum)[i]? <;> simp
    refine .inr ⟨h0', o, ⟨?_, ?_⟩, by rw [h, hfl]⟩
    · have := hO.1
      rw [mulL_length] at this
      exact this
    · refine hO.2.imp (fun {a b} hb => ?_)
      simp only [Bf, hrs] at hb ⊢
      rcases hb with hb | ⟨hb, hl⟩
      · exact .inl (Int.lt_of_mul_lt_mul_right hb (by omega))
      · exact .inr ⟨Int.eq_of_mul_eq_mul_right (by omega) hb, hl⟩

set_option maxHeartbeats 4000000 in
set_option maxRecDepth 100000 in
theorem walk (rv : Value) (zs : List Int) (T k : Int) (w : World) (hr : Rw (fun b => b < w.heap.size) w rv zs) (hT : I64 T) (hk : I64 k) :
    Calls Try.prog 4 #[rv, zV T, zV k] w fun e w' => e = .returned (.bool true) ∧ Fresh w w' := by
  have HT' : Hid (I64 T) := hT
  obtain ⟨k0, k1⟩ := hk
  have hln := hr.len
  obtain ⟨ao, cap, hv, _⟩ := id hr
  subst hv
  obtain ⟨n, hn⟩ : ∃ n, zs.length = n := ⟨_, rfl⟩
  have HAW : Hid (∀ W : World, _) := fun (W : World) => awake_any W
  have HR : Hid (∀ W, Fresh w W → Rw (fun b => b < W.heap.size) W (.slice ao n cap) zs) := fun W hF => by rw [← hn]; exact (hr.fresh hF).mono (fun b hb => Nat.lt_of_lt_of_le hb hF.size)
  have HN : Hid (zs.length = n) := hn
  rw [hn] at hln ⊢
  by_cases hb : k < 1 ∨ 1073741824 < k
  · by_cases h1 : k < 1
    · clear hb hr hT hn
      go_enter Try.func4, Try.ntmps4
      go_wp2_with fail
      refine (HAW.out _).mono ?_
      rintro e W1 ⟨rfl, hF⟩
      have HF : Hid (Fresh w W1) := hF
      clear hF
      go_wp2
      go_ret
      exact ⟨rfl, HF.out⟩
    · have h2 : 1073741824 < k := by omega
      clear hb hr hT hn
      go_enter Try.func4, Try.ntmps4
      go_wp2_with fail
      refine (HAW.out _).mono ?_
      rintro e W1 ⟨rfl, hF⟩
      have HF : Hid (Fresh w W1) := hF
      clear hF
      go_wp2
      go_ret
      exact ⟨rfl, HF.out⟩
  · have h1 : ¬ k < 1 := by omega
    have h2 : ¬ 1073741824 < k := by omega
    have HC : Hid (0 < n → ∃ b off, ao = some ⟨b, off, none⟩ ∧ ∀ W, Fresh w W → ∀ i, i < n → W.cell? ⟨b, off + i, none⟩ = some (zV (zs.getD i 0))) := fun h0 => by
      obtain ⟨ao', cap', hv', _, hc, _⟩ := hr
      cases hv'
      obtain ⟨b, off, e, _, hb, hcell⟩ := hc (fun e => by rw [e] at hn; simp at hn; omega)
      exact ⟨b, off, e, fun W hF i hi => (hF.cell (p := ⟨b, off + i, none⟩) hb (fun e => e)).trans (hcell i (by omega))⟩
    obtain ⟨Q, hQ⟩ : ∃ Q, (1073741824 : Int) / k = Q := ⟨_, rfl⟩
    have hq : (1073741824 : Int).tdiv k = Q := by rw [Int.tdiv_eq_ediv_of_nonneg (by decide)]; exact hQ
    have hQ0 : 0 ≤ Q := by rw [← hQ]; exact Int.ediv_nonneg (by decide) (by omega)
    have hQ1 : Q ≤ 1073741824 := by rw [← hQ]; exact Int.ediv_le_self _ (by decide)
    have HQk : Hid (Q * k ≤ 1073741824) := by show _ ≤ _; rw [← hQ]; exact Int.ediv_mul_le _ (by omega)
    have hkn : ¬ k = 0 := by omega
    have HO0 : Hid ((w.alloc (.cells #[] 2)).ownsRow w.heap.size 2 1 (.slice (some ⟨w.heap.size, 0, none⟩) 0 0) 0 [] ∧ Fresh w (w.alloc (.cells #[] 2))) := ⟨own64_empty w, (Kept.refl _ w).alloc _⟩
    have HI : Hid (∀ z ∈ zs, I64 z) := hr.all
    clear hr hn hb hQ hT
    go_enter Try.func4, Try.ntmps4
    go_wp2
    go_loopw [7, 8] (fun mv iv wr => ∃ j g c : Nat, j ≤ n ∧ iv = zV j ∧ mv = .slice (some ⟨g, 0, none⟩) j c ∧ Hid (wr.ownsRow w.heap.size 2 1 (.slice (some ⟨g, 0, none⟩) j c) j ((mulL (zs.take j) k).map zV) ∧ Fresh w wr ∧ ∀ i, i < j → 0 ≤ zs.getD i 0 ∧ zs.getD i 0 * k ≤ 1073741824)) (fun _ iv _ => n - (RowKit.intOf iv).toNat)
    case atStart => exact ⟨0, w.heap.size, 0, Nat.zero_le _, rfl, rfl, (⟨HO0.out.1, HO0.out.2, fun i hi => by omega⟩ : (w.alloc (.cells #[] 2)).ownsRow w.heap.size 2 1 (.slice (some ⟨w.heap.size, 0, none⟩) 0 0) 0 ((mulL (zs.take 0) k).map zV) ∧ Fresh w (w.alloc (.cells #[] 2)) ∧ ∀ i, i < 0 → 0 ≤ zs.getD i 0 ∧ zs.getD i 0 * k ≤ 1073741824)⟩
    case round =>
      obtain ⟨j, g, c, hj, rfl, rfl, HA⟩ := hrel
      clear HO0
      by_cases hlt : j < n
      · obtain ⟨b, off, rfl, hcell⟩ := HC.out (by omega)
        have g1 := hcell wr HA.out.2.1 j hlt
        have hlt' : (j : Int) < (n : Int) := by omega
        have hi64 : I64 (zs.getD j 0) := HI.out _ (by rw [← HN.out] at hlt; rw [List.getD_eq_getElem?_getD, List.getElem?_eq_getElem hlt]; exact List.getElem_mem hlt)
        obtain ⟨z0, z1⟩ := hi64
        have HTk : Hid (mulL (zs.take (j + 1)) k = mulL (zs.take j) k ++ [zs.getD j 0 * k]) := by
          exact mulL_succ zs k j (by rw [HN.out]; exact hlt)
        have HAll : Hid (0 ≤ zs.getD j 0 → zs.getD j 0 * k ≤ 1073741824 → ∀ i, i < j + 1 → 0 ≤ zs.getD i 0 ∧ zs.getD i 0 * k ≤ 1073741824) := fun a b i hi => by
          rcases Nat.lt_or_ge i j with e | e
          · exact HA.out.2.2 i e
          · obtain rfl : i = j := by omega
            exact ⟨a, b⟩
        have hcw := hcell
        have HCw : Hid (∀ W, Fresh w W → W.cell? ⟨b, off + j, none⟩ = some (zV (zs.getD j 0))) := fun W hF => hcw W hF j hlt
        clear hcell hcw
        generalize zs.getD j 0 = x at *
        have HFd : Hid (∀ d, Fresh w (wr.drewN d)) := fun d => HA.out.2.1.drewN d
        by_cases hx0 : x < 0
        · clear HTk HAll HA
          go_wp2_with fail
          go_quiet (fail)
          have HF0 := HFd.out nq
          clear HFd
          go_wp2_with fail
          refine (HAW.out _).mono ?_
          rintro e W1 ⟨rfl, hF⟩
          have HF : Hid (Fresh w W1) := HF0.trans hF (fun _ _ e => e)
          clear hF HF0
          go_wp2
          go_ret
          exact ⟨rfl, HF.out⟩
        · by_cases hxQ : Q < x
          · have hx0' : decide (x < 0) = false := by simp; omega
            clear HTk HAll HA
            go_wp2_with fail
            go_quiet (fail)
            have HF0 := HFd.out nq
            clear HFd
            go_wp2_with fail
            refine (HAW.out _).mono ?_
            rintro e W1 ⟨rfl, hF⟩
            have HF : Hid (Fresh w W1) := HF0.trans hF (fun _ _ e => e)
            clear hF HF0
            go_wp2
            go_ret
            exact ⟨rfl, HF.out⟩
          · have hx0' : decide (x < 0) = false := by simp; omega
            have hxk0 : 0 ≤ x * k := Int.mul_nonneg (by omega) (by omega)
            have hxk : x * k ≤ 1073741824 := by
              have := Int.mul_le_mul_of_nonneg_right (show x ≤ Q by omega) (show (0 : Int) ≤ k by omega)
              have := HQk.out
              omega
            have HAll' := HAll.out (by omega) hxk
            have HAl : Hid (∀ i, i < j + 1 → 0 ≤ zs.getD i 0 ∧ zs.getD i 0 * k ≤ 1073741824) := HAll'
            have hxQ' : decide (Q < x) = false := by simp; omega
            clear HAll HAll'
            go_wp2_with fail
            go_quiet (fail)
            obtain ⟨W3, hW3⟩ : ∃ W3, W3 = wr.drewN nq := ⟨_, rfl⟩
            have hO3 : W3.ownsRow w.heap.size 2 1 (.slice (some ⟨g, 0, none⟩) j c) j ((mulL (zs.take j) k).map zV) := by rw [hW3]; exact HA.out.1
            have hF3 : Fresh w W3 := by rw [hW3]; exact HFd.out nq
            rw [← hW3]
            have g3 := HCw.out W3 hF3
            obtain ⟨ga, ca, Wa, hra, hoa, hga, hka⟩ := push64 W3 w.heap.size g c j (mulL (zs.take j) k) (x * k) hO3 (by omega) hF3.size
            have hgb : w.heap.size ≤ g := by
              rcases hO3.2 with ⟨e, _⟩ | ⟨g', cap', cur, hv, hb, _⟩
              · cases e
              · cases hv; exact hb
            have HN1 : Hid (Wa.ownsRow w.heap.size 2 1 (.slice (some ⟨ga, 0, none⟩) (j + 1) ca) (j + 1) ((mulL (zs.take (j + 1)) k).map zV) ∧ Fresh w Wa) := ⟨by rw [HTk.out]; exact hoa, hF3.trans hka (fun i hi e => by omega)⟩
            clear hW3 hO3 hF3 hoa hga hka HA HFd HTk hgb
            obtain ⟨P, hP⟩ : ∃ P, x * k = P := ⟨_, rfl⟩
            rw [hP] at hxk hxk0 hra
            go_wp2_with (at_builtin; refine Lib.wpList_append_run _ rfl _ _ _ _ rfl _ _ rfl rfl _ _ hra ?_)
            go_roundw
            case rel => exact ⟨j + 1, ga, ca, hlt, by go_num, rfl, (⟨HN1.out.1, HN1.out.2, HAl.out⟩ : Wa.ownsRow w.heap.size 2 1 (.slice (some ⟨ga, 0, none⟩) (j + 1) ca) (j + 1) ((mulL (zs.take (j + 1)) k).map zV) ∧ Fresh w Wa ∧ ∀ i, i < j + 1 → 0 ≤ zs.getD i 0 ∧ zs.getD i 0 * k ≤ 1073741824)⟩
            case measure => simp [RowKit.intOf]; omega
      · obtain rfl : j = n := by omega
        have hzt : zs.take j = zs := List.take_of_length_le (by rw [HN.out]; exact Nat.le_refl _)
        have hml : (mulL zs k).length = j := by rw [mulL_length, HN.out]
        have HZ : Hid (∀ z ∈ zs, 0 ≤ z ∧ z * k ≤ 1073741824) := fun z hz => by
          obtain ⟨i, hi, rfl⟩ := List.getElem_of_mem hz
          have := HA.out.2.2 i (by rw [← HN.out]; exact hi)
          rwa [List.getD_eq_getElem?_getD, List.getElem?_eq_getElem hi] at this
        have hO := HA.out.1
        rw [hzt, ← hml] at hO
        have hRM : Rw (fun b => b < wr.heap.size) wr (.slice (some ⟨g, 0, none⟩) j c) (mulL zs k) := by
          have h := rw_of_own (v := .slice (some ⟨g, 0, none⟩) (mulL zs k).length c) (by exact hO) (by rw [hml]; exact hln) (fun z hz => by
            obtain ⟨y, hy, rfl⟩ := List.mem_map.1 hz
            have := HZ.out y hy
            have := Int.mul_nonneg this.1 (show (0 : Int) ≤ k by omega)
            exact ⟨by omega, by omega⟩)
          rw [hml] at h
          exact h.mono (fun b hb => hb.2)
        have hF := HA.out.2.1
        have HF : Hid (Fresh w wr) := hF
        have HRM : Hid (∀ W, Fresh wr W → Rw (fun b => b < W.heap.size) W (.slice (some ⟨g, 0, none⟩) j c) (mulL zs k)) := fun W hW => (hRM.fresh hW).mono (fun b hb => Nat.lt_of_lt_of_le hb hW.size)
        have HS1 : Hid (Unit → _) := fun (_ : Unit) => share_any _ zs T wr (HR.out wr hF) HT'.out
        clear HA hO hRM hF hzt HC
        go_wp2_with fail
        refine (HS1.out ()).mono ?_
        rintro e W1 ⟨v1, rfl, L, hL, hown1, hF1⟩
        have hLl : L.length ≤ 17592186044416 := sh_len hL (by rw [HN.out]; exact hln)
        have hR1 := rw_of_own hown1 hLl (sh_i64 hL HT'.out)
        have HS2 : Hid (Unit → _) := fun (_ : Unit) => share_any _ (mulL zs k) T W1 (HRM.out W1 hF1) HT'.out
        clear hown1 HS1
        go_wp2_with fail
        refine (HS2.out ()).mono ?_
        rintro e W2 ⟨v2, rfl, L2, hL2, hown2, hF2⟩
        have e1 := (same_shares (by omega) HZ.out hL2).unique hL
        subst e1
        have hR2 := rw_of_own hown2 hLl (sh_i64 hL HT'.out)
        have hR1' := hR1.fresh hF2
        have hF02 : Fresh wr W2 := hF1.trans hF2 (fun _ _ e => e)
        rw [same_sE (by omega) HZ.out]
        have HS3 : Hid (Unit → _) := fun (_ : Unit) => refShare_any _ _ zs T W2 (HR.out W2 (HF.out.trans hF02 (fun _ _ e => e))) HT'.out
        clear hown2 HS2 hR1 hF1 hF2
        go_wp2_with fail
        refine (HS3.out ()).mono ?_
        rintro e W3 ⟨v3, rfl, L3, hL3, hown3, hF3⟩
        have hR1c := hR1'.fresh hF3
        have hR2' := hR2.fresh hF3
        have hF03 : Fresh wr W3 := hF02.trans hF3 (fun _ _ e => e)
        clear HS3 hR1' hR2 hown3 hF3 hF02
        go_wp2_with fail
        refine (HAW.out _).mono ?_
        rintro e W4 ⟨rfl, hF4⟩
        have hR1d := hR1c.fresh hF4
        have hR2c := hR2'.fresh hF4
        have hF04 : Fresh wr W4 := hF03.trans hF4 (fun _ _ e => e)
        obtain ⟨a1, c1, q1, _⟩ := id hR1d
        obtain ⟨a2, c2, q2, _⟩ := id hR2c
        subst q1
        subst q2
        clear hR1c hR2' hF4 hF03 hL hL2 hL3
        go_wp2_with fail
        refine (longs_any _ _ _ _ _ _ hR1d hR2c).mono ?_
        rintro e W5 ⟨rfl, n5, rfl⟩
        have HF5 : Hid (Fresh w (W4.drewN n5)) := HF.out.trans (hF04.drewN n5) (fun _ _ e => e)
        clear hR1d hR2c hF04
        generalize sE zs T = E at *
        generalize L2.length = l2 at *
        go_wp2
        go_ret
        exact ⟨by simp, HF5.out⟩

set_option maxRecDepth 100000 in
theorem contract (H : Type) (enc : TypeId × Value → H) (W : World) (base : Nat) (args : Array Value) (ds gs : List (DataW H)) (before : List MemPlace)
    (hval : ∀ (j : Nat) t v, Try.f4.params[j]? = some t → args[j]? = some v → Value.okWide Try.prog W .any base t v)
    (hW : DataW.Whole enc Try.prog Try.f4.params.toList Rows.rankScalesSpec.vars false W args.toList ds gs before) 
    (hsz : (DataW.weightsEach Try.prog (Try.f4.params.toList ++ []) (ds ++ gs)).all (· ≤ reachBytes) = true) (hL : laidMetH Try.prog Rows.rankScalesRow.laid W) :
    Calls Try.prog 4 args W fun e W' => ∃ v, e = .returned v ∧ Rows.rankScalesSpec.post enc Try.prog Try.f4 false true false false W args v W' := by
  have hW' := hW
  obtain ⟨p, q, hA0, hV, rfl, hfz, hnd⟩ := hW
  have hA : DataW.TrodAll enc Try.prog W 0 (fun _ => true) true Try.f4.params.toList args.toList ds p := hA0
  rw [Try.params4] at hA hval hsz
  obtain ⟨rfl, rfl⟩ := trodVars_none hV
  have _hL := hL
  obtain ⟨v0, v1, v2, d0, d1, d2, p0, p1, p2, rfl, rfl, rfl, h0, h1, h2⟩ := trodAll_three hA
  obtain ⟨ao, ln, cap, rfl⟩ := okWide_slice Try.underlying22 (hval 0 22 v0 rfl rfl)
  obtain ⟨x1, rfl, rfl, rfl, w1⟩ := open_int Try.underlying2 (hval 1 2 v1 rfl rfl) h1
  obtain ⟨x2, rfl, rfl, rfl, w2⟩ := open_int Try.underlying2 (hval 2 2 v2 rfl rfl) h2
  obtain ⟨fuel, hf⟩ := h0
  obtain ⟨zs, hr, _⟩ := rw_of (x := (d0, _)) hf (fun es sp e => by
    have e' : d0 = .slice es sp := e
    subst e'
    have := sized_slice hsz (j := 0) (t := 22) (e := 2) rfl rfl Try.underlying22
    rw [Try.b64] at this
    simp only [reachBytes] at this
    omega)
  refine (walk _ zs x1 x2 W hr (i64_of w1) (i64_of w2)).mono fun e W' ⟨he, hk⟩ => ?_
  subst he
  exact ⟨_, rfl, post_law rfl (by kernel_rfl) (by kernel_rfl) hW' rfl hk⟩

set_option maxRecDepth 100000 in
theorem laid_met (os : Os) : laidMet Try.prog Rows.rankScalesRow.laid ((layIn (World.holding Try.prog os ⟨#[], #[], []⟩)).forCall (fun _ _ => 0) ⟨#[], #[.slice none 0 0, .int .i64 0, .int .i64 0], []⟩).memory :=
  laidMet_of_run' 8 (by kernel_rfl) (by kernel_rfl)
set_option maxRecDepth 100000 in
theorem reads (os : Os) {H : Type} (enc : TypeId × Value → H) : ∃ places, DataW.whole enc Try.prog ((layIn (World.holding Try.prog os ⟨#[], #[], []⟩)).forCall (fun _ _ => 0) ⟨#[], #[.slice none 0 0, .int .i64 0, .int .i64 0], []⟩).memory Try.f4.params.toList Rows.rankScalesSpec.vars false (#[.slice none 0 0, .int .i64 0, .int .i64 0] : Array Value).toList 8 = some ([.nil, .lit (.int .i64 0), .lit (.int .i64 0)], [], places) :=
  ⟨[], by kernel_rfl⟩

set_option maxRecDepth 100000 in
theorem lifted (os : Os) (started : os.Started) (H : Type) (enc : TypeId × Value → H) (F : Stop.Interp) :
    ReturnsInHanded {} Try.checked os 4 .any ((OpenSpec.ofChange Rows.rankScalesSpec).preRow enc Try.prog Try.f4 Rows.rankScalesRow.domain false Rows.rankScalesRow.laid) (((OpenSpec.ofChange Rows.rankScalesSpec).at F).post enc Try.prog Try.f4 false true false false) := by
  obtain ⟨places, hx⟩ := reads os enc
  refine returnsInHanded_of_row (C := Try.checked) (s := OpenSpec.ofChange Rows.rankScalesSpec) Try.own started (by kernel_rfl) Try.func4
    (witness_row_at (enc := enc) (C := Try.checked) false (layIn (World.holding Try.prog os ⟨#[], #[], []⟩)) #[.slice none 0 0, .int .i64 0, .int .i64 0] rfl (by kernel_rfl) (by kernel_rfl) (by kernel_rfl)
      (OpenSpec.preRow_of_cond 8 hx (by kernel_rfl) (fun k hk => by cases hk) (by kernel_rfl) (laid_met os))) ?_
  intro W base args ds gs before hval hW _ hc hsz hL _ _
  exact contract H enc W base args ds gs before hval hW hsz hL

theorem said : Rows.RankScalesSaid :=
  OpenClaim.holds_of_cond 4 Try.f4 rfl rfl rfl rfl rfl rfl rfl ⟨rfl, rfl, rfl, rfl, rfl⟩ rfl rfl rfl rfl rfl (by kernel_rfl) Try.func4 (by kernel_rfl)
    (of_decide_eq_true (by kernel_rfl)) (by unfold Func.isWrapper; first | (rw [if_pos (by decide +kernel)]; kernel_rfl) | (rw [if_neg (by decide +kernel)]; exact ⟨rfl, rfl⟩))
    (fun os started H enc _ F => by rw [OpenClaim.pre_eq_preRow]; exact lifted os started H enc F)


end Go.Proofs.Ytgemkmpepnaoiab.Scales7
namespace Go.Proofs.Ytgemkmpepnaoiab
theorem rankScales_holds : Rows.RankScalesSaid := Scales7.said
end Go.Proofs.Ytgemkmpepnaoiab
