/-
  Share, the document's.
-/
import Derived.Test.YtgemkmpepnaoiabRkj
namespace Go.Proofs.Ytgemkmpepnaoiab
open Go.RowKit Go.Lib Go.Maps

/-- One number behind a row of one's own. -/
theorem push64 (X : World) (B g c j : Nat) (xs : List Int) (x : Int) (hown : X.ownsRow B 2 1 (.slice (some ⟨g, 0, none⟩) j c) j (xs.map zV)) (hj : j + 1 ≤ 17592186044416) (hB : B ≤ X.heap.size) :
    ∃ g' c' X', (Builtin.append_ #[22, 22] 22 #[.slice (some ⟨g, 0, none⟩) j c, .slice (some ⟨X.heap.size, 0, none⟩) 1 1]).run Try.prog (X.alloc (.cells #[zV x] 2)) = .ok (.slice (some ⟨g', 0, none⟩) (j + 1) c') X' ∧
      X'.ownsRow B 2 1 (.slice (some ⟨g', 0, none⟩) (j + 1) c') (j + 1) ((xs ++ [x]).map zV) ∧ (g' = g ∨ g' = X.heap.size + 1) ∧ Kept (fun k => k = g) X X' := by
  obtain ⟨i0, hi0, hz0, hz1, hz2⟩ := info_parts Try.info64
  have hY : (X.alloc (.cells #[zV x] 2)).ownsRow B 2 1 (.slice (some ⟨g, 0, none⟩) j c) j (xs.map zV) := owns_kept hown ((Kept.refl (fun _ => False) X).alloc _) (fun _ _ e => e)
  obtain ⟨v', w', hrun, ho, hg, _, hb⟩ := run_append_own_at (P := Try.prog) (X.alloc (.cells #[zV x] 2)) B 22 22 2 i0 _ 1 8 Try.underlying22 hi0 hz0 hz1 hz2 rfl (by omega) _ j _ hY ⟨X.heap.size, 0, none⟩ 1 1 [zV x] rfl (fun k u hk => cell_one_new X (zV x) 2 k u hk) (fun u hu => by simp at hu; subst hu; rfl) (by unfold maxLen; omega) (by omega) (by simp; omega)
  obtain ⟨g', c', rfl⟩ : ∃ g' c', v' = .slice (some ⟨g', 0, none⟩) (j + 1) c' := by
    rcases ho.2 with ⟨_, e⟩ | ⟨g', cap', cur, hv, _⟩
    · omega
    · exact ⟨g', cap', hv⟩
  refine ⟨g', c', w', hrun, by rw [List.map_append]; exact ho, ?_, ?_⟩
  · simp [Value.ownBlock] at hb
    exact hb
  · exact ((Kept.refl (fun k => k = g) X).alloc _).grown hg (fun k _ e => by simp [Value.ownBlock] at e; exact e.symm)

set_option maxHeartbeats 2000000 in
set_option maxRecDepth 100000 in
theorem refShare_any (p : Nat → Prop) (rv : Value) (zs : List Int) (T : Int) (w : World) (hr : Rw p w rv zs) (_hT : I64 T) :
    Calls Try.prog 9 #[rv, zV T] w fun e w' => ∃ v, e = .returned (.tuple #[v, zV (sE zs T)]) ∧ ∃ L, ShIs zs T L ∧ w'.ownsRow w.heap.size 2 1 v L.length (L.map zV) ∧ Fresh w w' := by
  have HEm : Hid (∀ w : World, (w.alloc (.cells #[] 2)).ownsRow w.heap.size 2 1 (.slice (some ⟨w.heap.size, 0, none⟩) 0 0) 0 []) := own64_empty
  by_cases hb : T < 1 ∨ 4294967296 < T
  · have HE : Hid (sE zs T = 1 ∧ ShIs zs T []) := ⟨sE_bad hb, .inl ⟨by rw [sE_bad hb]; omega, rfl⟩⟩
    obtain ⟨ao, cap, rfl, _⟩ := hr
    by_cases h1 : T < 1
    · clear hb
      go_enter Try.func9, Try.ntmps9
      go_wp2
      go_ret2
      exact ⟨_, by rw [HE.out.1]; rfl, [], HE.out.2, HEm.out w, (Kept.refl _ _).alloc _⟩
    · have h2 : 4294967296 < T := by omega
      clear hb
      go_enter Try.func9, Try.ntmps9
      go_wp2
      go_ret2
      exact ⟨_, by rw [HE.out.1]; rfl, [], HE.out.2, HEm.out w, (Kept.refl _ _).alloc _⟩
  have h1 : ¬ T < 1 := by omega
  have h2 : ¬ 4294967296 < T := by omega
  have HW : Hid (Unit → _) := fun (_ : Unit) => refSum_any _ rv zs w hr
  by_cases he : wE zs = 0
  · obtain ⟨hn, hz, h0, hS0⟩ := wE_zero he
    have HE : Hid (sE zs T = 0 ∧ wS zs = zs.sum ∧ wE zs = 0) := ⟨by rw [sE_ok (by omega) (by omega), he], wS_ok he, he⟩
    obtain ⟨S, hS⟩ : ∃ S, S = zs.sum := ⟨_, rfl⟩
    obtain ⟨n, hnz⟩ : ∃ n, n = zs.length := ⟨_, rfl⟩
    obtain ⟨ao, cap, hv, _⟩ := id hr
    subst hv
    have HC : Hid (0 < n → ∃ b off, ao = some ⟨b, off, none⟩ ∧ ∀ W, Fresh w W → ∀ i, i < n → W.cell? ⟨b, off + i, none⟩ = some (zV (zs.getD i 0))) := fun h0 => by
      obtain ⟨ao', cap', hv', _, hc, _⟩ := hr
      cases hv'
      obtain ⟨b, off, e, _, hb, hcell⟩ := hc (fun e => by rw [e] at hnz; simp at hnz; omega)
      exact ⟨b, off, e, fun W hF i hi => (hF.cell (p := ⟨b, off + i, none⟩) hb (fun e => e)).trans (hcell i (by omega))⟩
    have hw := HW.out ()
    rw [HE.out.2.1, HE.out.2.2, ← hS, ← hnz] at hw
    have HW' : Hid (Unit → _) := fun (_ : Unit) => hw
    rw [HE.out.1, ← hnz]
    have HZ : Hid (∀ z ∈ zs, Wt z) := hz
    have HN : Hid (n = zs.length ∧ S = zs.sum) := ⟨hnz, hS⟩
    have hSp : 0 < S := by omega
    have hSn : ¬ S = 0 := by omega
    have hn' : n ≤ 4096 := by omega
    clear hr hw HW hS hnz hz h0 hS0 hn he hb
    have hfs : 0 ≤ T - (flL zs T S).sum ∧ T - (flL zs T S).sum < n := by rw [HN.out.1, HN.out.2]; exact missing_bounds (by rw [← HN.out.2]; exact hSp)
    have HPart : Hid (∀ j, 0 ≤ ((flL zs T S).take j).sum ∧ ((flL zs T S).take j).sum ≤ (flL zs T S).sum) := flL_part (fun z hz => (HZ.out z hz).1) (by omega) hSp
    have HWt : Hid (∀ j, j < n → Wt (zs.getD j 0)) := fun j hj => HZ.out _ (by rw [HN.out.1] at hj; rw [List.getD_eq_getElem?_getD, List.getElem?_eq_getElem hj]; exact List.getElem_mem hj)
    have HFl : Hid (∀ j, j < n → (flL zs T S).getD j 0 = zs.getD j 0 * T / S ∧ (rsL zs T S).getD j 0 = zs.getD j 0 * T % S) := fun j hj => by
      rw [HN.out.1] at hj
      constructor
      · rw [List.getD_eq_getElem?_getD, flL_get _ _ _ _ hj]; rfl
      · rw [List.getD_eq_getElem?_getD, rsL_get _ _ _ _ hj]; rfl
    have HLen : Hid ((flL zs T S).length = n ∧ (rsL zs T S).length = n) := ⟨by rw [flL_length, HN.out.1], by rw [rsL_length, HN.out.1]⟩
    have HA0 : Hid (((w.alloc (.cells #[] 2)).alloc (.cells #[] 2)).ownsRow w.heap.size 2 1 (.slice (some ⟨w.heap.size, 0, none⟩) 0 0) 0 [] ∧ ((w.alloc (.cells #[] 2)).alloc (.cells #[] 2)).ownsRow w.heap.size 2 1 (.slice (some ⟨w.heap.size + 1, 0, none⟩) 0 0) 0 [] ∧ Fresh w ((w.alloc (.cells #[] 2)).alloc (.cells #[] 2))) := by
      refine ⟨owns_kept (HEm.out w) ((Kept.refl (fun _ => False) _).alloc _) (fun _ _ e => e), ?_, ((Kept.refl _ w).alloc _).alloc _⟩
      have := HEm.out (w.alloc (.cells #[] 2))
      rw [World.size_alloc] at this
      rcases this with ⟨h, h'⟩
      refine ⟨h, ?_⟩
      rcases h' with ⟨e, _⟩ | ⟨g, c, cur, hv, hb, hr⟩
      · cases e
      · exact .inr ⟨g, c, cur, hv, by omega, hr⟩
    go_enter Try.func9, Try.ntmps9
    go_wp2_with fail
    refine (HW'.out ()).mono ?_
    rintro e w1 ⟨rfl, hw1⟩
    have hw2 := hw1.symm
    subst hw2
    clear hw1 HW'
    go_wp2
    go_loopw [8, 9, 10, 11] (fun ov lv mv iv wr => ∃ j g1 c1 g2 c2 : Nat, j ≤ n ∧ iv = zV j ∧ mv = zV (T - ((flL zs T S).take j).sum) ∧ ov = .slice (some ⟨g1, 0, none⟩) j c1 ∧ lv = .slice (some ⟨g2, 0, none⟩) j c2 ∧ g1 ≠ g2 ∧ Hid (wr.ownsRow w.heap.size 2 1 (.slice (some ⟨g1, 0, none⟩) j c1) j (((flL zs T S).take j).map zV) ∧ wr.ownsRow w.heap.size 2 1 (.slice (some ⟨g2, 0, none⟩) j c2) j (((rsL zs T S).take j).map zV) ∧ Fresh w wr)) (fun _ _ _ iv _ => n - (RowKit.intOf iv).toNat)
    case atStart => exact ⟨0, w.heap.size, 0, w.heap.size + 1, 0, Nat.zero_le _, rfl, by simp, rfl, rfl, by omega, HA0.out⟩
    case round =>
      obtain ⟨j, g1, c1, g2, c2, hj, rfl, rfl, rfl, rfl, hne, HA⟩ := hrel
      clear HA0
      by_cases hlt : j < n
      · obtain ⟨b, off, rfl, hcell⟩ := HC.out (by omega)
        have hb1 : w.heap.size ≤ g1 ∧ g1 < wr.heap.size := by
          rcases HA.out.1.2 with ⟨e, _⟩ | ⟨g', cap', cur, hv, hb, hh, _⟩
          · cases e
          · cases hv; exact ⟨hb, lt_of_heap hh⟩
        have hb2 : w.heap.size ≤ g2 ∧ g2 < wr.heap.size := by
          rcases HA.out.2.1.2 with ⟨e, _⟩ | ⟨g', cap', cur, hv, hb, hh, _⟩
          · cases e
          · cases hv; exact ⟨hb, lt_of_heap hh⟩
        have hw := HWt.out j hlt
        have hfl := HFl.out j hlt
        have hpj := HPart.out j
        have hpj1 := HPart.out (j + 1)
        have hs1 : ((flL zs T S).take (j + 1)).sum = ((flL zs T S).take j).sum + (flL zs T S).getD j 0 := take_sum_succ _ _ (by rw [HLen.out.1]; exact hlt)
        have HT1 : Hid ((flL zs T S).take (j + 1) = (flL zs T S).take j ++ [(flL zs T S).getD j 0] ∧ (rsL zs T S).take (j + 1) = (rsL zs T S).take j ++ [(rsL zs T S).getD j 0] ∧ ((flL zs T S).take j).length = j) := by
          have l1 : j < (flL zs T S).length := by rw [HLen.out.1]; exact hlt
          have l2 : j < (rsL zs T S).length := by rw [HLen.out.2]; exact hlt
          refine ⟨?_, ?_, by rw [List.length_take]; omega⟩
          · rw [List.take_succ_eq_append_getElem l1, List.getD_eq_getElem?_getD, List.getElem?_eq_getElem l1]; rfl
          · rw [List.take_succ_eq_append_getElem l2, List.getD_eq_getElem?_getD, List.getElem?_eq_getElem l2]; rfl
        have g1' := hcell wr HA.out.2.2 j hlt
        obtain ⟨x, hx⟩ : ∃ x, x = zs.getD j 0 := ⟨_, rfl⟩
        obtain ⟨P, hP⟩ : ∃ P, x * T = P := ⟨_, rfl⟩
        rw [← hx] at g1' hw hfl
        rw [hP] at hfl
        obtain ⟨hf1, hf2⟩ := hfl
        have HS1 : Hid (((flL zs T S).take (j + 1)).sum = ((flL zs T S).take j).sum + P / S) := by show _ = _; rw [← hf1]; exact hs1
        rw [hs1] at hpj1
        rw [hf1] at hpj1 HT1
        rw [hf2] at HT1
        have hP0 : 0 ≤ P := by rw [← hP]; exact Int.mul_nonneg hw.1 (by omega)
        have hP1 : P ≤ 4611686018427387904 := by
          rw [← hP]
          have q1 := Int.mul_le_mul_of_nonneg_right hw.2 (show (0 : Int) ≤ T by omega)
          have q2 : 1073741824 * T ≤ 4611686018427387904 := by omega
          omega
        have hq : P.tdiv S = P / S := Int.tdiv_eq_ediv_of_nonneg hP0
        have hr : P.tmod S = P % S := Int.tmod_eq_emod_of_nonneg hP0
        have b1 : 0 ≤ P / S := Int.ediv_nonneg hP0 (Int.le_of_lt hSp)
        have b2 : P / S ≤ P := Int.ediv_le_self _ hP0
        have b3 : 0 ≤ P % S := Int.emod_nonneg _ hSn
        have b4 : P % S ≤ P := by have := Int.mul_ediv_add_emod P S; have := Int.mul_nonneg (Int.le_of_lt hSp) b1; omega
        -- the two appends
        obtain ⟨ga, ca, Wa, hra, hoa, hga, hka⟩ := push64 wr w.heap.size g1 c1 j ((flL zs T S).take j) (P / S) HA.out.1 (by omega) HA.out.2.2.size
        have hFa : Fresh w Wa := HA.out.2.2.trans hka (fun k hk e => by omega)
        have ho2 : Wa.ownsRow w.heap.size 2 1 (.slice (some ⟨g2, 0, none⟩) j c2) j (((rsL zs T S).take j).map zV) := owns_kept HA.out.2.1 hka (fun k e => by simp [Value.ownBlock] at e; omega)
        have hla : ga < Wa.heap.size := owns_lt hoa (by simp [Value.ownBlock])
        obtain ⟨gb, cb, Wb, hrb, hob, hgb, hkb⟩ := push64 Wa w.heap.size g2 c2 j ((rsL zs T S).take j) (P % S) ho2 (by omega) hFa.size
        have hne2 : ga ≠ g2 := by omega
        have hoa2 := owns_kept hoa hkb (fun k e => by simp [Value.ownBlock] at e; omega)
        have hne3 : ga ≠ gb := by have := hka.size; omega
        have hFb : Fresh w Wb := hFa.trans hkb (fun k hk e => by omega)
        have ca1 := hcell Wa hFa j hlt
        rw [← hx] at ca1
        have cb1 : Wb.cell? ⟨ga, j, none⟩ = some (zV (P / S)) := by
          rw [hoa2.cellAt j (by omega), List.map_append, List.getElem?_append_right (by rw [List.length_map, HT1.out.2.2]; exact Nat.le_refl _), List.length_map, HT1.out.2.2, Nat.sub_self]
          rfl
        have HN1 : Hid (Wb.ownsRow w.heap.size 2 1 (.slice (some ⟨ga, 0, none⟩) (j + 1) ca) (j + 1) (((flL zs T S).take (j + 1)).map zV) ∧ Wb.ownsRow w.heap.size 2 1 (.slice (some ⟨gb, 0, none⟩) (j + 1) cb) (j + 1) (((rsL zs T S).take (j + 1)).map zV) ∧ Fresh w Wb) := by
          rw [HT1.out.1, HT1.out.2.1]
          exact ⟨hoa2, hob, hFb⟩
        have hlt' : (j : Int) < (n : Int) := by omega
        have hlt2 : (j : Int) < (j : Int) + 1 := by omega
        have hx0 := hw.1
        have hx1 := hw.2
        clear hs1 hf1 hf2 hx hw hcell HT1 hoa hob hka hkb ho2 hoa2 hFa hFb HA hga hgb hla
        generalize P / S = fq at *
        generalize P % S = rq at *
        generalize ((flL zs T S).take j).sum = A at *
        generalize (flL zs T S).sum = B at *
        go_wp2_with (at_builtin; first | (refine Lib.wpList_append_run _ rfl _ _ _ _ rfl _ _ rfl rfl _ _ hra ?_; clear hra) | (refine Lib.wpList_append_run _ rfl _ _ _ _ rfl _ _ rfl rfl _ _ hrb ?_))
        go_roundw
        case rel => exact ⟨j + 1, ga, ca, gb, cb, hlt, by go_num, by rw [HS1.out]; exact congrArg zV (by omega), rfl, rfl, hne3, HN1.out⟩
        case measure => simp [RowKit.intOf]; omega
      · obtain rfl : j = n := by omega
        have hA1 : wr.ownsRow w.heap.size 2 1 (.slice (some ⟨g1, 0, none⟩) j c1) j ((flL zs T S).map zV) := by have := HA.out.1; rwa [List.take_of_length_le (by rw [HLen.out.1]; exact Nat.le_refl _)] at this
        have hA2 : wr.ownsRow w.heap.size 2 1 (.slice (some ⟨g2, 0, none⟩) j c2) j ((rsL zs T S).map zV) := by have := HA.out.2.1; rwa [List.take_of_length_le (by rw [HLen.out.2]; exact Nat.le_refl _)] at this
        have hFw := HA.out.2.2
        rw [List.take_of_length_le (by rw [HLen.out.1]; exact Nat.le_refl _)]
        have hrw := rw_of_own (zs := rsL zs T S) (by rw [HLen.out.2]; exact hA2) (by rw [HLen.out.2]; omega) (fun z hz => by
          obtain ⟨y, hy, rfl⟩ := List.mem_map.1 hz
          have q1 := Int.emod_nonneg (y * T) hSn
          have q2 := Int.emod_lt_of_pos (y * T) hSp
          have q3 := (sum_bounds zs HZ.out).2
          rw [← HN.out.2, ← HN.out.1] at q3
          refine ⟨by omega, ?_⟩
          have : (j : Int) * 1073741824 ≤ 4096 * 1073741824 := by omega
          omega)
        have hord := refOrder_any _ _ _ wr hrw
        rw [HLen.out.2] at hord
        have HO : Hid (Unit → _) := fun (_ : Unit) => hord
        obtain ⟨m, hm⟩ : ∃ m : Nat, T - (flL zs T S).sum = (m : Int) := ⟨(T - (flL zs T S).sum).toNat, by omega⟩
        rw [hm] at hfs ⊢
        have HM : Hid ((T - (flL zs T S).sum).toNat = m) := by show _ = _; rw [hm]; rfl
        have HA1 : Hid (wr.ownsRow w.heap.size 2 1 (.slice (some ⟨g1, 0, none⟩) j c1) j ((flL zs T S).map zV) ∧ Fresh w wr) := ⟨hA1, hFw⟩
        have hg1 : w.heap.size ≤ g1 ∧ g1 < wr.heap.size := by
          rcases hA1.2 with ⟨e, _⟩ | ⟨g', cap', cur, hv, hb, hh, _⟩
          · cases e
          · cases hv; exact ⟨hb, lt_of_heap hh⟩
        clear HA hA1 hA2 hFw hrw hord hm hlt HPart HC
        go_wp2_with fail
        refine (HO.out ()).mono ?_
        rintro e w2 ⟨o, ov, rfl, hO, hAo, hFo⟩
        have hj0 : 0 < j := by omega
        obtain ⟨bo, co, rfl, hbo⟩ : ∃ bo co, ov = .slice (some ⟨bo, 0, none⟩) j co ∧ wr.heap.size ≤ bo := by
          rcases hAo.2 with ⟨_, e⟩ | ⟨g', cap', cur, hv, hb, hh, _⟩
          · omega
          · exact ⟨g', cap', hv, hb⟩
        have HB : Hid (w2.ownsRow w.heap.size 2 1 (.slice (some ⟨g1, 0, none⟩) j c1) j ((flL zs T S).map zV) ∧ w2.ownsRow 0 3 1 (.slice (some ⟨bo, 0, none⟩) j co) j ((upI o).map zV) ∧ Fresh w w2) := ⟨owns_kept HA1.out.1 hFo (fun _ _ e => e), owns_base hAo, HA1.out.2.trans hFo (fun _ _ e => e)⟩
        have HOr : Hid (IsOrd (fun i => (rsL zs T S).getD i 0) j o) := hO
        have hgb : g1 ≠ bo := by omega
        have hmj : m ≤ j := by omega
        have hmj' : (m : Int) ≤ (j : Int) := by omega
        clear HO hO hAo hFo HA1 hbo
        go_wp2
        go_loopw [13] (fun kv wx => ∃ k : Nat, k ≤ m ∧ kv = zV k ∧ Hid (wx.ownsRow w.heap.size 2 1 (.slice (some ⟨g1, 0, none⟩) j c1) j ((bump (flL zs T S) (o.take k)).map zV) ∧ wx.ownsRow 0 3 1 (.slice (some ⟨bo, 0, none⟩) j co) j ((upI o).map zV) ∧ Fresh w wx)) (fun kv _ => m - (RowKit.intOf kv).toNat)
        case atStart => exact ⟨0, Nat.zero_le _, rfl, HB.out⟩
        case round =>
          obtain ⟨k, hk, rfl, HB1⟩ := hrel
          clear HB
          by_cases hkm : k < m
          · have hol : o.length = j := HOr.out.length
            have hko : k < o.length := by omega
            have hp : o[k] < j := HOr.out.lt (List.getElem_mem hko)
            have hbl : (bump (flL zs T S) (o.take k)).length = j := by rw [bump_length, HLen.out.1]
            have hbb := bump_bound T (o.take k) (flL zs T S) (fun p hp => by rw [HLen.out.1]; exact HOr.out.lt (List.mem_of_mem_take hp)) (fun i => flL_bound HZ.out (by omega) HN.out.2 hSp i) o[k]
            have d1 : wr.cell? ⟨bo, k, none⟩ = some (zV (o[k] : Nat)) := by rw [HB1.out.2.1.cellAt k (by omega), List.getElem?_map, upI_get, List.getElem?_eq_getElem hko]; rfl
            have d2 : wr.cell? ⟨g1, o[k], none⟩ = some (zV ((bump (flL zs T S) (o.take k)).getD o[k] 0)) := by rw [HB1.out.1.cellAt _ (by omega), List.getElem?_map, List.getD_eq_getElem?_getD, List.getElem?_eq_getElem (by rw [hbl]; exact hp)]; rfl
            have f2 := own_frozen HB1.out.1 o[k]
            have HX : Hid ((wr.setCell ⟨g1, o[k], none⟩ (zV ((bump (flL zs T S) (o.take k)).getD o[k] 0 + 1))).ownsRow w.heap.size 2 1 (.slice (some ⟨g1, 0, none⟩) j c1) j ((bump (flL zs T S) (o.take (k + 1))).map zV) ∧ (wr.setCell ⟨g1, o[k], none⟩ (zV ((bump (flL zs T S) (o.take k)).getD o[k] 0 + 1))).ownsRow 0 3 1 (.slice (some ⟨bo, 0, none⟩) j co) j ((upI o).map zV) ∧ Fresh w (wr.setCell ⟨g1, o[k], none⟩ (zV ((bump (flL zs T S) (o.take k)).getD o[k] 0 + 1)))) := by
              refine ⟨?_, ownsRow_setCell_other HB1.out.2.1 (by simp [Value.ownBlock]; omega) _, HB1.out.2.2.setCell (fun e => by simp at e; omega) _⟩
              rw [List.take_succ_eq_append_getElem hko, bump_snoc, List.map_set]
              exact own_setB HB1.out.1
            have hln : (o.take k).length ≤ 4096 := by rw [List.length_take]; omega
            have hp' : ((o[k] : Nat) : Int) < (j : Int) := by omega
            have hkj' : (k : Int) < (j : Int) := by omega
            have hkm' : (k : Int) < (m : Int) := by omega
            clear HB1 hbl hol
            generalize (bump (flL zs T S) (o.take k)).getD o[k] 0 = v at *
            generalize o[k] = p at *
            generalize (o.take k).length = q at *
            go_wp2
            go_roundw
            case rel => exact ⟨k + 1, hkm, by go_num, HX.out⟩
            case measure => simp [RowKit.intOf]; omega
          · obtain rfl : k = m := by omega
            have HR : Hid (ShIs zs T (bump (flL zs T S) (o.take k)) ∧ wr.ownsRow w.heap.size 2 1 (.slice (some ⟨g1, 0, none⟩) j c1) j ((bump (flL zs T S) (o.take k)).map zV) ∧ Fresh w wr ∧ (bump (flL zs T S) (o.take k)).length = j) := by
              have hl : (bump (flL zs T S) (o.take k)).length = j := by rw [bump_length, HLen.out.1]
              refine ⟨.inr ⟨HE.out.1, o, ?_, ?_⟩, HB1.out.1, HB1.out.2.2, hl⟩
              · rw [← HN.out.2, ← HN.out.1]; exact HOr.out
              · rw [← HN.out.2, HM.out]
            clear HB1 HOr
            go_wp2
            go_ret2
            exact ⟨_, rfl, _, HR.out.1, by rw [HR.out.2.2.2]; exact HR.out.2.1, HR.out.2.2.1⟩
  · have HE : Hid (sE zs T = wE zs ∧ ShIs zs T [] ∧ wS zs = 0) := ⟨sE_ok (by omega) (by omega), .inl ⟨by rw [sE_ok (by omega) (by omega)]; exact he, rfl⟩, wS_bad he⟩
    obtain ⟨ao, cap, rfl, _⟩ := hr
    have he' : (wE zs == 0) = false := by simp [he]
    go_enter Try.func9, Try.ntmps9
    go_wp2_with fail
    refine (HW.out ()).mono ?_
    rintro e w1 ⟨rfl, rfl⟩
    go_wp2
    go_ret2
    exact ⟨_, by rw [HE.out.1]; rfl, [], HE.out.2.1, HEm.out _, (Kept.refl _ _).alloc _⟩

theorem sh_len {zs : List Int} {T : Int} {L : List Int} (h : ShIs zs T L) (hl : zs.length ≤ 17592186044416) : L.length ≤ 17592186044416 := by
  rcases h with ⟨_, rfl⟩ | ⟨_, o, _, rfl⟩
  · simp
  · rw [bump_length, flL_length]; exact hl
theorem sh_i64 {zs : List Int} {T : Int} {L : List Int} (h : ShIs zs T L) (hT : I64 T) : ∀ z ∈ L, I64 z := by
  rcases h with ⟨_, rfl⟩ | ⟨h0, o, ho, rfl⟩
  · simp
  · have hT1 : 1 ≤ T ∧ T ≤ 4294967296 := by
      by_cases e : T < 1 ∨ 4294967296 < T
      · rw [sE_bad e] at h0; omega
      · omega
    rw [sE_ok hT1.1 hT1.2] at h0
    obtain ⟨hn, hz, _, hS⟩ := wE_zero h0
    intro z hz'
    obtain ⟨i, hi, rfl⟩ := List.getElem_of_mem hz'
    have hb := bump_bound T (o.take (T - (flL zs T zs.sum).sum).toNat) (flL zs T zs.sum) (fun p hp => by rw [flL_length]; exact ho.lt (List.mem_of_mem_take hp)) (fun i => flL_bound hz (by omega) rfl hS i) i
    rw [List.getD_eq_getElem?_getD, List.getElem?_eq_getElem hi, Option.getD_some] at hb
    have hl : (o.take (T - (flL zs T zs.sum).sum).toNat).length ≤ 4096 := by rw [List.length_take, ho.length]; omega
    have := hT.1
    exact ⟨by omega, by omega⟩
end Go.Proofs.Ytgemkmpepnaoiab
