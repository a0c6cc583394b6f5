/-
  Share, the package's.
-/
import Derived.Test.YtgemkmpepnaoiabRkg
import Derived.Deep.DeepCutAuto
namespace Go.Proofs.Ytgemkmpepnaoiab
open Go.RowKit Go.Lib Go.Maps

/-- A block that holds numbers of int64. -/
def At6 (w : World) (b : Nat) (L : List Int) : Prop := w.heap[b]? = some (.cells (L.map zV).toArray 2 (0, 0))
theorem At6.cell {w : World} {b : Nat} {L : List Int} (h : At6 w b L) (i : Nat) : w.cell? ⟨b, i, none⟩ = (L[i]?).map zV := by
  rw [Lib.cell_of_heap h]; simp
theorem At6.frozen {w : World} {b : Nat} {L : List Int} (h : At6 w b L) (i : Nat) : w.frozen? ⟨b, i, none⟩ = false := Lib.frozen_of_heap h i
theorem At6.kept {S : Nat → Prop} {w w' : World} {b : Nat} {L : List Int} (h : At6 w b L) (hk : Kept S w w') (hn : ¬ S b) : At6 w' b L := hk.at h hn
theorem At6.set {w : World} {b : Nat} {L : List Int} (h : At6 w b L) (i : Nat) (x : Int) : At6 (w.setCell ⟨b, i, none⟩ (zV x)) b (L.set i x) := by
  have := Lib.heap_setCell_same h (zV x) (i := i)
  show _ = _
  rw [this]
  congr 3
  simp
theorem At6.other {w : World} {b c i : Nat} {L : List Int} {v : Value} (h : At6 w b L) (hne : b ≠ c) : At6 (w.setCell ⟨c, i, none⟩ v) b L := (Below.heap_setCell w ⟨c, i, none⟩ v b hne).trans h
theorem rw_of_at6 {w : World} {b : Nat} {L : List Int} (h : At6 w b L) (cap : Nat) (hl : L.length ≤ 17592186044416) (hz : ∀ z ∈ L, I64 z) : Rw (fun k => k = b) w (.slice (some ⟨b, 0, none⟩) L.length cap) L :=
  ⟨_, cap, rfl, hl, fun _ => ⟨b, 0, rfl, rfl, lt_of_heap h, fun i hi => by rw [Nat.zero_add, h.cell, List.getElem?_eq_getElem hi, List.getD_eq_getElem?_getD, List.getElem?_eq_getElem hi]; rfl⟩, hz, fun e => by cases e⟩
theorem own_of_at6 {w : World} {B g n : Nat} {L : List Int} (h : At6 w g L) (hB : B ≤ g) (hn : L.length = n) (hm : n ≤ maxLen) : w.ownsRow B 2 1 (.slice (some ⟨g, 0, none⟩) n n) n (L.map zV) :=
  ⟨by simp [hn], .inr ⟨g, n, _, rfl, hB, h, Nat.le_refl _, hm, by simp [hn], by rw [Nat.mul_one]; exact List.take_of_length_le (by simp [hn])⟩⟩

set_option maxHeartbeats 1000000 in
set_option maxRecDepth 100000 in
theorem share_any (rv : Value) (zs : List Int) (T : Int) (w : World) (hr : Rw (fun b => b < w.heap.size) w rv zs) (_hT : I64 T) :
    Calls Try.prog 8 #[rv, zV T] w fun e w' => ∃ v, e = .returned (.tuple #[v, zV (sE zs T)]) ∧ ∃ L, ShIs zs T L ∧ w'.ownsRow w.heap.size 2 1 v L.length (L.map zV) ∧ Fresh w w' := by
  by_cases hb : T < 1 ∨ 4294967296 < T
  · have HE : Hid (sE zs T = 1 ∧ ShIs zs T []) := ⟨sE_bad hb, .inl ⟨by rw [sE_bad hb]; omega, rfl⟩⟩
    have hown : Hid (∀ w : World, w.ownsRow w.heap.size 2 1 (.slice none 0 0) 0 []) := fun w => ⟨rfl, .inl ⟨rfl, rfl⟩⟩
    obtain ⟨ao, cap, rfl, _⟩ := hr
    by_cases h1 : T < 1
    · clear hb
      go_enter Try.func8, Try.ntmps8
      go_wp2
      go_ret2
      exact ⟨_, by rw [HE.out.1]; rfl, [], HE.out.2, hown.out _, Kept.refl _ _⟩
    · have h2 : 4294967296 < T := by omega
      clear hb
      go_enter Try.func8, Try.ntmps8
      go_wp2
      go_ret2
      exact ⟨_, by rw [HE.out.1]; rfl, [], HE.out.2, hown.out _, Kept.refl _ _⟩
  have h1 : ¬ T < 1 := by omega
  have h2 : ¬ 4294967296 < T := by omega
  have HW : Hid (Unit → _) := fun (_ : Unit) => weigh_any _ rv zs w hr
  by_cases he : wE zs = 0
  · obtain ⟨hn, hz, h0, hS0⟩ := wE_zero he
    have HE : Hid (sE zs T = 0 ∧ wS zs = zs.sum ∧ wE zs = 0) := ⟨by rw [sE_ok (by omega) (by omega), he], wS_ok he, he⟩
    obtain ⟨S, hS⟩ : ∃ S, S = zs.sum := ⟨_, rfl⟩
    obtain ⟨n, hnz⟩ : ∃ n, n = zs.length := ⟨_, rfl⟩
    obtain ⟨i0, hi0, hz0, hz1, hz2⟩ := info_parts Try.info64
    have hm : ∀ (W : World), (Instr.makeSlice 22 (.int .i64 (n : Int)) (.int .i64 (n : Int))).run Try.prog W = .ok (.slice (some ⟨W.heap.size, 0, none⟩) n n) (W.alloc (.cells ((List.replicate n (0 : Int)).map zV).toArray 2)) := fun W => by
      have h := run_make (P := Try.prog) W 22 2 i0 _ Try.underlying22 hi0 hz0 .i64 .i64 (n : Int) (n : Int) (by omega) (by omega) (by rw [hz2]; omega) (by omega)
      rw [hz1] at h
      simp only [Int.toNat_natCast] at h
      rw [made_zeros] at h
      exact h
    obtain ⟨ao, cap, hv, _⟩ := id hr
    subst hv
    have HC : Hid (0 < n → ∃ b off, ao = some ⟨b, off, none⟩ ∧ ∀ W, Fresh w W → ∀ i, i < n → W.cell? ⟨b, off + i, none⟩ = some (zV (zs.getD i 0))) := fun h0 => by
      obtain ⟨ao', cap', hv', _, hc, _⟩ := hr
      cases hv'
      obtain ⟨b, off, e, _, hb, hcell⟩ := hc (fun e => by rw [e] at hnz; simp at hnz; omega)
      exact ⟨b, off, e, fun W hF i hi => (hF.cell (p := ⟨b, off + i, none⟩) hb (fun e => e)).trans (hcell i (by omega))⟩
    have hw := HW.out ()
    rw [HE.out.2.1, HE.out.2.2, ← hS, ← hnz] at hw
    have HW' : Hid (Unit → _) := fun (_ : Unit) => hw
    rw [HE.out.1, ← hnz]
    have HZ : Hid (∀ z ∈ zs, Wt z) := hz
    have HN : Hid (n = zs.length ∧ S = zs.sum) := ⟨hnz, hS⟩
    have hSp : 0 < S := by omega
    have hSn : ¬ S = 0 := by omega
    have hn' : n ≤ 4096 := by omega
    clear hr hw HW hS hnz hz h0 hS0 hn he hb
    go_enter Try.func8, Try.ntmps8
    go_wp2_with fail
    refine (HW'.out ()).mono ?_
    rintro e w1 ⟨rfl, hw1⟩
    have hw2 := hw1.symm
    subst hw2
    clear hw1 HW'
    go_upto_region 6 with fail
    go_cut [8, 9] (fun sv lv w' => ∃ gs gl, sv = .slice (some ⟨gs, 0, none⟩) n n ∧ lv = .slice (some ⟨gl, 0, none⟩) n n ∧ gs ≠ gl ∧ w.heap.size ≤ gs ∧ w.heap.size ≤ gl ∧ At6 w' gs (List.replicate n 0) ∧ At6 w' gl (List.replicate n 0) ∧ Fresh w w')
    case first =>
      have HP : Hid (At6 ((w.alloc (.cells ((List.replicate n (0 : Int)).map zV).toArray 2)).alloc (.cells ((List.replicate n (0 : Int)).map zV).toArray 2)).drew w.heap.size (List.replicate n 0) ∧ At6 ((w.alloc (.cells ((List.replicate n (0 : Int)).map zV).toArray 2)).alloc (.cells ((List.replicate n (0 : Int)).map zV).toArray 2)).drew (w.heap.size + 1) (List.replicate n 0) ∧ Fresh w ((w.alloc (.cells ((List.replicate n (0 : Int)).map zV).toArray 2)).alloc (.cells ((List.replicate n (0 : Int)).map zV).toArray 2)).drew) := by
        refine ⟨?_, ?_, (((Kept.refl _ w).alloc _).alloc _).drew⟩
        · exact (Below.heap_alloc _ _ _ (by simp)).trans (heap_alloc_new w _)
        · have := heap_alloc_new (w.alloc (.cells ((List.replicate n (0 : Int)).map zV).toArray 2)) (.cells ((List.replicate n (0 : Int)).map zV).toArray 2)
          rw [World.size_alloc] at this
          exact this
      generalize (Obj.cells ((List.replicate n (0 : Int)).map zV).toArray 2) = Z at *
      go_region
      all_goals
        go_wp2
        go_meet
        case rel => first | exact ⟨w.heap.size, w.heap.size + 1, rfl, rfl, by omega, by omega, by omega, HP.out.1, HP.out.2.1, HP.out.2.2⟩ | exact ⟨w.heap.size + 1, w.heap.size, rfl, rfl, by omega, by omega, by omega, HP.out.2.1, HP.out.1, HP.out.2.2⟩
    case rest =>
      obtain ⟨gs, gl, rfl, rfl, hne, hgs, hgl, hAs, hAl, hF⟩ := hcut
      have hfs : 0 ≤ T - (flL zs T S).sum ∧ T - (flL zs T S).sum < n := by rw [HN.out.1, HN.out.2]; exact missing_bounds (by rw [← HN.out.2]; exact hSp)
      have HPart : Hid (∀ j, 0 ≤ ((flL zs T S).take j).sum ∧ ((flL zs T S).take j).sum ≤ (flL zs T S).sum) := flL_part (fun z hz => (HZ.out z hz).1) (by omega) hSp
      have HWt : Hid (∀ j, j < n → Wt (zs.getD j 0)) := fun j hj => HZ.out _ (by rw [HN.out.1] at hj; rw [List.getD_eq_getElem?_getD, List.getElem?_eq_getElem hj]; exact List.getElem_mem hj)
      have HFl : Hid (∀ j, j < n → (flL zs T S).getD j 0 = zs.getD j 0 * T / S ∧ (rsL zs T S).getD j 0 = zs.getD j 0 * T % S) := fun j hj => by
        rw [HN.out.1] at hj
        constructor
        · rw [List.getD_eq_getElem?_getD, flL_get _ _ _ _ hj]; rfl
        · rw [List.getD_eq_getElem?_getD, rsL_get _ _ _ _ hj]; rfl
      have HLen : Hid ((flL zs T S).length = n ∧ (rsL zs T S).length = n) := ⟨by rw [flL_length, HN.out.1], by rw [rsL_length, HN.out.1]⟩
      have HA0 : Hid (At6 wc gs (List.replicate n 0) ∧ At6 wc gl (List.replicate n 0) ∧ Fresh w wc) := ⟨hAs, hAl, hF⟩
      clear hAs hAl hF hm
      go_wp2
      go_loopw [38, 10] (fun iv mv wr => ∃ j : Nat, j ≤ n ∧ iv = zV j ∧ mv = zV (T - ((flL zs T S).take j).sum) ∧ Hid (At6 wr gs ((flL zs T S).take j ++ List.replicate (n - j) 0) ∧ At6 wr gl ((rsL zs T S).take j ++ List.replicate (n - j) 0) ∧ Fresh w wr)) (fun iv _ _ => n - (RowKit.intOf iv).toNat)
      case atStart => exact ⟨0, Nat.zero_le _, rfl, by simp, (by simpa using HA0.out : At6 wc gs ((flL zs T S).take 0 ++ List.replicate (n - 0) 0) ∧ At6 wc gl ((rsL zs T S).take 0 ++ List.replicate (n - 0) 0) ∧ Fresh w wc)⟩
      case round =>
        obtain ⟨j, hj, rfl, rfl, HA⟩ := hrel
        clear HA0
        by_cases hlt : j < n
        · obtain ⟨b, off, rfl, hcell⟩ := HC.out (by omega)
          have g1 := hcell wr HA.out.2.2 j hlt
          have hw := HWt.out j hlt
          have hfl := HFl.out j hlt
          have hpj := HPart.out j
          have hpj1 := HPart.out (j + 1)
          have hs1 : ((flL zs T S).take (j + 1)).sum = ((flL zs T S).take j).sum + (flL zs T S).getD j 0 := take_sum_succ _ _ (by rw [HLen.out.1]; exact hlt)
          have HT1 : Hid ((flL zs T S).take (j + 1) = (flL zs T S).take j ++ [(flL zs T S).getD j 0] ∧ (rsL zs T S).take (j + 1) = (rsL zs T S).take j ++ [(rsL zs T S).getD j 0] ∧ ((flL zs T S).take j).length = j ∧ ((rsL zs T S).take j).length = j) := by
            have l1 : j < (flL zs T S).length := by rw [HLen.out.1]; exact hlt
            have l2 : j < (rsL zs T S).length := by rw [HLen.out.2]; exact hlt
            refine ⟨?_, ?_, by rw [List.length_take]; omega, by rw [List.length_take]; omega⟩
            · rw [List.take_succ_eq_append_getElem l1, List.getD_eq_getElem?_getD, List.getElem?_eq_getElem l1]; rfl
            · rw [List.take_succ_eq_append_getElem l2, List.getD_eq_getElem?_getD, List.getElem?_eq_getElem l2]; rfl
          have c1 : wr.cell? ⟨gs, j, none⟩ = some (zV 0) := by
            rw [HA.out.1.cell, List.getElem?_append_right (by rw [HT1.out.2.2.1]; exact Nat.le_refl _), HT1.out.2.2.1, Nat.sub_self, List.getElem?_replicate, if_pos (by omega)]; rfl
          have c2 : wr.cell? ⟨gl, j, none⟩ = some (zV 0) := by
            rw [HA.out.2.1.cell, List.getElem?_append_right (by rw [HT1.out.2.2.2]; exact Nat.le_refl _), HT1.out.2.2.2, Nat.sub_self, List.getElem?_replicate, if_pos (by omega)]; rfl
          have f1 := HA.out.1.frozen j
          have f2 := HA.out.2.1.frozen j
          rw [hs1] at hpj1
          have HS1 : Hid (((flL zs T S).take (j + 1)).sum = ((flL zs T S).take j).sum + (flL zs T S).getD j 0) := hs1
          obtain ⟨x, hx⟩ : ∃ x, x = zs.getD j 0 := ⟨_, rfl⟩
          obtain ⟨P, hP⟩ : ∃ P, x * T = P := ⟨_, rfl⟩
          rw [← hx] at g1 hw hfl
          rw [hP] at hfl
          obtain ⟨hf1, hf2⟩ := hfl
          rw [hf1] at hpj1 HT1 HS1
          rw [hf2] at HT1
          have hP0 : 0 ≤ P := by rw [← hP]; exact Int.mul_nonneg hw.1 (by omega)
          have hP1 : P ≤ 4611686018427387904 := by
            rw [← hP]
            have q1 := Int.mul_le_mul_of_nonneg_right hw.2 (show (0 : Int) ≤ T by omega)
            have q2 : 1073741824 * T ≤ 4611686018427387904 := by omega
            omega
          have hq : P.tdiv S = P / S := Int.tdiv_eq_ediv_of_nonneg hP0
          have hr : P.tmod S = P % S := Int.tmod_eq_emod_of_nonneg hP0
          have b1 : 0 ≤ P / S := Int.ediv_nonneg hP0 (Int.le_of_lt hSp)
          have b2 : P / S ≤ P := Int.ediv_le_self _ hP0
          have b3 : 0 ≤ P % S := Int.emod_nonneg _ hSn
          have b4 : P % S ≤ P := by have := Int.mul_ediv_add_emod P S; have := Int.mul_nonneg (Int.le_of_lt hSp) b1; omega
          have hlt' : (j : Int) < (n : Int) := by omega
          have HW0 : Hid (0 ≤ x ∧ x ≤ 1073741824) := hw
          have hx0 := hw.1
          have hx1 := hw.2
          clear hs1 hf1 hf2 hx hw hcell
          generalize P / S = fq at *
          generalize P % S = rq at *
          generalize ((flL zs T S).take j).sum = A at *
          generalize (flL zs T S).sum = B at *
          have HX : Hid (∀ X : World, (X = (wr.drew.setCell ⟨gs, j, none⟩ (zV fq)).setCell ⟨gl, j, none⟩ (zV rq) ∨ X = (wr.drew.setCell ⟨gl, j, none⟩ (zV rq)).setCell ⟨gs, j, none⟩ (zV fq)) → At6 X gs ((flL zs T S).take (j + 1) ++ List.replicate (n - (j + 1)) 0) ∧ At6 X gl ((rsL zs T S).take (j + 1) ++ List.replicate (n - (j + 1)) 0) ∧ Fresh w X) := by
            have e1 : ((flL zs T S).take j ++ List.replicate (n - j) 0).set j fq = (flL zs T S).take (j + 1) ++ List.replicate (n - (j + 1)) 0 := by
              rw [HT1.out.1, show n - j = (n - (j + 1)) + 1 by omega, List.replicate_succ, List.set_append_right _ _ (by rw [HT1.out.2.2.1]; exact Nat.le_refl _), HT1.out.2.2.1, Nat.sub_self, List.set_cons_zero, List.append_assoc]
              rfl
            have e2 : ((rsL zs T S).take j ++ List.replicate (n - j) 0).set j rq = (rsL zs T S).take (j + 1) ++ List.replicate (n - (j + 1)) 0 := by
              rw [HT1.out.2.1, show n - j = (n - (j + 1)) + 1 by omega, List.replicate_succ, List.set_append_right _ _ (by rw [HT1.out.2.2.2]; exact Nat.le_refl _), HT1.out.2.2.2, Nat.sub_self, List.set_cons_zero, List.append_assoc]
              rfl
            have a1 : At6 wr.drew gs ((flL zs T S).take j ++ List.replicate (n - j) 0) := HA.out.1
            have a2 : At6 wr.drew gl ((rsL zs T S).take j ++ List.replicate (n - j) 0) := HA.out.2.1
            have aF : Fresh w wr.drew := HA.out.2.2.drew
            intro X hX
            rw [← e1, ← e2]
            rcases hX with rfl | rfl
            · exact ⟨(a1.set j fq).other hne, (a2.other (Ne.symm hne)).set j rq, (aF.setCell (fun e => by simp at e; omega) _).setCell (fun e => by simp at e; omega) _⟩
            · exact ⟨(a1.other hne).set j fq, (a2.set j rq).other (Ne.symm hne), (aF.setCell (fun e => by simp at e; omega) _).setCell (fun e => by simp at e; omega) _⟩
          clear HA HT1
          go_upto_region 11 with fail
          go_region
          all_goals
            go_wp2
            go_roundw
            case rel => exact ⟨j + 1, hlt, by go_num, by rw [HS1.out]; exact congrArg zV (by omega), HX.out _ (.inl rfl)⟩
            case measure => simp [RowKit.intOf]; omega
        · obtain rfl : j = n := by omega
          have hA1 : At6 wr gs (flL zs T S) := by have := HA.out.1; rwa [Nat.sub_self, List.replicate_zero, List.append_nil, List.take_of_length_le (by rw [HLen.out.1]; exact Nat.le_refl _)] at this
          have hA2 : At6 wr gl (rsL zs T S) := by have := HA.out.2.1; rwa [Nat.sub_self, List.replicate_zero, List.append_nil, List.take_of_length_le (by rw [HLen.out.2]; exact Nat.le_refl _)] at this
          have hFw := HA.out.2.2
          rw [List.take_of_length_le (by rw [HLen.out.1]; exact Nat.le_refl _)]
          have hrw := rw_of_at6 hA2 j (by rw [HLen.out.2]; omega) (fun z hz => by
            obtain ⟨y, hy, rfl⟩ := List.mem_map.1 hz
            have hw := HZ.out y hy
            have q1 := Int.emod_nonneg (y * T) hSn
            have q2 := Int.emod_lt_of_pos (y * T) hSp
            have q3 := (sum_bounds zs HZ.out).2
            rw [← HN.out.2, ← HN.out.1] at q3
            refine ⟨by omega, ?_⟩
            have : (j : Int) * 1073741824 ≤ 4096 * 1073741824 := by omega
            omega)
          rw [HLen.out.2] at hrw
          have hord := order_any _ _ wr (hrw.mono (fun k hk => by rw [hk]; exact lt_of_heap hA2))
          rw [HLen.out.2] at hord
          have HO : Hid (Unit → _) := fun (_ : Unit) => hord
          obtain ⟨m, hm⟩ : ∃ m : Nat, T - (flL zs T S).sum = (m : Int) := ⟨(T - (flL zs T S).sum).toNat, by omega⟩
          rw [hm] at hfs ⊢
          have HM : Hid ((T - (flL zs T S).sum).toNat = m) := by show _ = _; rw [hm]; rfl
          have HA1 : Hid (At6 wr gs (flL zs T S) ∧ Fresh w wr) := ⟨hA1, hFw⟩
          clear HA hA1 hA2 hFw hrw hord hm hlt HPart HC
          go_wp2_with fail
          refine (HO.out ()).mono ?_
          rintro e w2 ⟨o, bo, rfl, hO, hbo, hAo, hFo⟩
          have hgw : gs < wr.heap.size := lt_of_heap HA1.out.1
          have HB : Hid (At6 w2 gs (flL zs T S) ∧ At w2 bo (upI o) ∧ Fresh w w2) := ⟨HA1.out.1.kept hFo (fun e => e), hAo, HA1.out.2.trans hFo (fun _ _ e => e)⟩
          have HOr : Hid (IsOrd (fun i => (rsL zs T S).getD i 0) j o) := hO
          have hgb : gs ≠ bo := by omega
          have hbo2 : w.heap.size ≤ bo := Nat.le_trans HA1.out.2.size hbo
          have hmj : m ≤ j := by omega
          have hmj' : (m : Int) ≤ (j : Int) := by omega
          clear HO hO hbo hAo hFo HA1 hgw
          go_wp2
          go_loopw [71] (fun kv wx => ∃ k : Nat, k ≤ m ∧ kv = zV k ∧ Hid (At6 wx gs (bump (flL zs T S) (o.take k)) ∧ At wx bo (upI o) ∧ Fresh w wx)) (fun kv _ => m - (RowKit.intOf kv).toNat)
          case atStart => exact ⟨0, Nat.zero_le _, rfl, HB.out⟩
          case round =>
            obtain ⟨k, hk, rfl, HB1⟩ := hrel
            clear HB
            by_cases hkm : k < m
            · have hol : o.length = j := HOr.out.length
              have hko : k < o.length := by omega
              have hp : o[k] < j := HOr.out.lt (List.getElem_mem hko)
              have hbl : (bump (flL zs T S) (o.take k)).length = j := by rw [bump_length, HLen.out.1]
              have hbb := bump_bound T (o.take k) (flL zs T S) (fun p hp => by rw [HLen.out.1]; exact HOr.out.lt (List.mem_of_mem_take hp)) (fun i => flL_bound HZ.out (by omega) HN.out.2 hSp i) o[k]
              have c1 : wr.cell? ⟨bo, k, none⟩ = some (zV (o[k] : Nat)) := by rw [HB1.out.2.1.cell, upI_get, List.getElem?_eq_getElem hko]; rfl
              have c2 : wr.cell? ⟨gs, o[k], none⟩ = some (zV ((bump (flL zs T S) (o.take k)).getD o[k] 0)) := by rw [HB1.out.1.cell, List.getD_eq_getElem?_getD, List.getElem?_eq_getElem (by rw [hbl]; exact hp)]; rfl
              have f2 := HB1.out.1.frozen o[k]
              have HX : Hid (At6 (wr.setCell ⟨gs, o[k], none⟩ (zV ((bump (flL zs T S) (o.take k)).getD o[k] 0 + 1))) gs (bump (flL zs T S) (o.take (k + 1))) ∧ At (wr.setCell ⟨gs, o[k], none⟩ (zV ((bump (flL zs T S) (o.take k)).getD o[k] 0 + 1))) bo (upI o) ∧ Fresh w (wr.setCell ⟨gs, o[k], none⟩ (zV ((bump (flL zs T S) (o.take k)).getD o[k] 0 + 1)))) := by
                refine ⟨?_, (Below.heap_setCell wr ⟨gs, o[k], none⟩ _ bo (Ne.symm hgb)).trans HB1.out.2.1, HB1.out.2.2.setCell (fun e => by simp at e; omega) _⟩
                rw [List.take_succ_eq_append_getElem hko, bump_snoc]
                exact HB1.out.1.set _ _
              have hln : (o.take k).length ≤ 4096 := by rw [List.length_take]; omega
              have hp' : ((o[k] : Nat) : Int) < (j : Int) := by omega
              have hkm' : (k : Int) < (m : Int) := by omega
              clear HB1 hbl hol
              generalize (bump (flL zs T S) (o.take k)).getD o[k] 0 = v at *
              generalize o[k] = p at *
              generalize (o.take k).length = q at *
              go_wp2
              go_roundw
              case rel => exact ⟨k + 1, hkm, by go_num, HX.out⟩
              case measure => simp [RowKit.intOf]; omega
            · obtain rfl : k = m := by omega
              have HR : Hid (ShIs zs T (bump (flL zs T S) (o.take k)) ∧ wr.ownsRow w.heap.size 2 1 (.slice (some ⟨gs, 0, none⟩) j j) j ((bump (flL zs T S) (o.take k)).map zV) ∧ Fresh w wr ∧ (bump (flL zs T S) (o.take k)).length = j) := by
                have hl : (bump (flL zs T S) (o.take k)).length = j := by rw [bump_length, HLen.out.1]
                refine ⟨.inr ⟨HE.out.1, o, ?_, ?_⟩, own_of_at6 HB1.out.1 hgs hl (by unfold maxLen; omega), HB1.out.2.2, hl⟩
                · rw [← HN.out.2, ← HN.out.1]; exact HOr.out
                · rw [← HN.out.2, HM.out]
              clear HB1 HOr
              go_wp2
              go_ret2
              exact ⟨_, rfl, _, HR.out.1, by rw [HR.out.2.2.2]; exact HR.out.2.1, HR.out.2.2.1⟩
  · have HE : Hid (sE zs T = wE zs ∧ ShIs zs T [] ∧ wS zs = 0) := ⟨sE_ok (by omega) (by omega), .inl ⟨by rw [sE_ok (by omega) (by omega)]; exact he, rfl⟩, wS_bad he⟩
    have hown : Hid (∀ w : World, w.ownsRow w.heap.size 2 1 (.slice none 0 0) 0 []) := fun w => ⟨rfl, .inl ⟨rfl, rfl⟩⟩
    obtain ⟨ao, cap, rfl, _⟩ := hr
    have he' : (wE zs == 0) = false := by simp [he]
    go_enter Try.func8, Try.ntmps8
    go_wp2_with fail
    refine (HW.out ()).mono ?_
    rintro e w1 ⟨rfl, rfl⟩
    go_wp2
    go_ret2
    exact ⟨_, by rw [HE.out.1]; rfl, [], HE.out.2.1, hown.out _, Kept.refl _ _⟩
end Go.Proofs.Ytgemkmpepnaoiab
