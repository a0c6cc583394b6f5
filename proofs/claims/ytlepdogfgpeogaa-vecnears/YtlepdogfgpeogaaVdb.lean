/-
  Unpack, the package's.
-/
import Derived.Test.YtlepdogfgpeogaaVda
import Derived.Test.YtlepdogfgpeogaaVcs
namespace Go.Proofs.Ytlepdogfgpeogaa
open Go.RowKit Go.Lib Go.Maps

/-- The number that is said at a place. -/
def uN (g : Nat) (ss hs : List Int) (i : Nat) : Int := clamp (s4 (nib hs i) * 2 ^ (ss.getD (i / g) 0).toNat) (-127) 127
def uA (n g : Nat) (ss hs : List Int) : List Int := (List.range n).map (uN g ss hs)
/-- What Unpack answers. -/
def uL (n g : Int) (ss hs : List Int) : List Int := if rightB n g ss hs = true then uA n.toNat g.toNat ss hs else []
def uE (n g : Int) (ss hs : List Int) : Int := if rightB n g ss hs = true then 0 else 84
theorem uA_length (n g : Nat) (ss hs : List Int) : (uA n g ss hs).length = n := by simp [uA]
theorem rightB_true {n g : Int} {ss hs : List Int} (h : rightB n g ss hs = true) : (0 ≤ n ∧ n ≤ 1048576) ∧ (1 ≤ g ∧ g ≤ 256) ∧ (ss.length : Int) = (n + g - 1) / g ∧ (hs.length : Int) = (n + 1) / 2 ∧ ∀ i, ss.getD i 0 ≤ 5 := by
  have h1 : ¬ (n < 0 ∨ 1048576 < n) := fun e => by rw [right_1 e] at h; cases h
  have h2 : 1 ≤ g ∧ g ≤ 256 := by
    by_cases e : 1 ≤ g ∧ g ≤ 256
    · exact e
    · rw [right_2 h1 e] at h; cases h
  have h3 : ¬ ((ss.length : Int) ≠ (n + g - 1) / g ∨ (hs.length : Int) ≠ (n + 1) / 2) := fun e => by rw [right_3 h1 h2 e] at h; cases h
  rw [right_4 h1 h2 h3] at h
  simp only [Bool.and_eq_true] at h
  refine ⟨by omega, h2, by omega, by omega, fun i => ?_⟩
  rcases Nat.lt_or_ge i ss.length with e | e
  · have := List.all_eq_true.1 h.1 (ss.getD i 0) (by rw [getD_getElem e]; exact List.getElem_mem e)
    simpa using this
  · rw [List.getD_eq_getElem?_getD, List.getElem?_eq_none e]; simp
theorem group_lt {i N G : Nat} (hG : 1 ≤ G) (hi : i < N) : i / G < (N + G - 1) / G := by
  have h1 : i / G ≤ (N - 1) / G := Nat.div_le_div_right (by omega)
  have h2 : (N + G - 1) / G = (N - 1) / G + 1 := by
    rw [show N + G - 1 = (N - 1) + G by omega, Nat.add_div_right _ (by omega)]
  omega
theorem uN_bound (g : Nat) (ss hs : List Int) (i : Nat) : -127 ≤ uN g ss hs i ∧ uN g ss hs i ≤ 127 := clamp_bound _
theorem small_shl {y : Int} {k : Nat} (hy : -8 ≤ y ∧ y ≤ 7) (hk : k ≤ 5) : -256 ≤ y * 2 ^ k ∧ y * 2 ^ k ≤ 224 := by
  have h : k = 0 ∨ k = 1 ∨ k = 2 ∨ k = 3 ∨ k = 4 ∨ k = 5 := by omega
  rcases h with rfl | rfl | rfl | rfl | rfl | rfl <;> simp <;> omega

set_option maxHeartbeats 8000000 in
set_option maxRecDepth 100000 in
theorem Unpack_any (p : Nat → Prop) (n g : Int) (sv hv : Value) (ss hs : List Int) (w : World) (hS : Rk .u8 p w sv ss) (hH : Rk .u8 p w hv hs) (hn : I64 n) (hg : I64 g) :
    Calls Try.prog 21 #[.agg #[zV n, zV g, sv, hv]] w fun e w' => Gives .i8 38 (uL n g ss hs) (uE n g ss hs) w e w' := by
  obtain ⟨sa, scp, hsv, _⟩ := hS.shape
  obtain ⟨ba, bcp, hhv, _⟩ := hH.shape
  obtain ⟨W0, hW0⟩ : ∃ W0, W0 = w.alloc (.cells #[zV n, zV g, sv, hv] 48) := ⟨_, rfl⟩
  have hbox : W0.heap[w.heap.size]? = some (.cells #[zV n, zV g, sv, hv] 48 (0, 0)) := by rw [hW0]; exact heap_alloc_new w _
  have hF0 : Fresh w W0 := by rw [hW0]; exact (Kept.refl _ w).alloc _
  have HF0 : Hid (Fresh w W0) := hF0
  have HP : Hid (∀ W, Fresh W0 W → W.cell? ⟨w.heap.size, 0, none⟩ = some (zV n) ∧ W.cell? ⟨w.heap.size, 1, none⟩ = some (zV g) ∧ W.cell? ⟨w.heap.size, 2, none⟩ = some sv ∧ W.cell? ⟨w.heap.size, 3, none⟩ = some hv) := fun W hF => by
    have q1 := hF.at hbox (fun e => e)
    exact ⟨by rw [Lib.cell_of_heap q1]; rfl, by rw [Lib.cell_of_heap q1]; rfl, by rw [Lib.cell_of_heap q1]; rfl, by rw [Lib.cell_of_heap q1]; rfl⟩
  have HIs : Hid (Unit → _) := fun (_ : Unit) => isRight_any p n g sv hv ss hs W0 (hS.fresh hF0) (hH.fresh hF0) hn hg
  have HG : Hid (∀ (W : World), Fresh w W → Gives .i8 38 [] 84 w (.returned (.tuple #[.slice none 0 0, zV 84])) W) := fun W hF => ⟨_, rfl, own_nil _ _ _, hF⟩
  subst hsv
  subst hhv
  obtain ⟨c0, c1, c2, c3⟩ := HP.out W0 (Kept.refl _ _)
  cases hr : rightB n g ss hs with
  | false =>
    have HE : Hid (uL n g ss hs = [] ∧ uE n g ss hs = 84) := ⟨by unfold uL; rw [hr]; rfl, by unfold uE; rw [hr]; rfl⟩
    rw [HE.out.1, HE.out.2]
    rw [hr] at HIs
    clear hS hH hbox hF0 hr
    go_enter Try.func21, Try.ntmps21
    go_wp2_with fail
    rw [← hW0]
    refine (HIs.out ()).mono ?_
    rintro e w1 ⟨rfl, hF1⟩
    have HF1 : Hid (Fresh w w1) := HF0.out.trans hF1 (fun _ _ e => e)
    clear HIs hF1 hW0 c0 c1 c2 c3
    go_wp2
    go_ret2
    exact HG.out _ HF1.out
  | true =>
    obtain ⟨⟨n0, n1⟩, ⟨g0, g1⟩, hl1, hl2, hl3⟩ := rightB_true hr
    obtain ⟨N, rfl⟩ := Int.eq_ofNat_of_zero_le n0
    obtain ⟨G, rfl⟩ := Int.eq_ofNat_of_zero_le (show 0 ≤ g by omega)
    have HE : Hid (uL N G ss hs = uA N G ss hs ∧ uE N G ss hs = 0) := ⟨by unfold uL; rw [hr]; rfl, by unfold uE; rw [hr]; rfl⟩
    rw [HE.out.1, HE.out.2]
    rw [hr] at HIs
    have HSaid : Hid (∀ (W : World) (i : Nat), Fresh w W → i < N → Calls Try.prog 45 #[.slice ba hs.length bcp, zV i] W fun e w' => e = .returned (zV (s4 (nib hs i))) ∧ w' = W) := fun W i hF hi => said_any p _ hs i W (hH.fresh hF) (by omega) (by omega)
    have HSh : Hid (∀ i, i < N → ∃ b off k q : Nat, sa = some ⟨b, off, none⟩ ∧ i / G = q ∧ q < ss.length ∧ k ≤ 5 ∧ (ss.getD q 0).toNat = k ∧ ∀ W, Fresh w W → W.cell? ⟨b, off + q, none⟩ = some (uV (k : Int))) := fun i hi => by
      have hlt : i / G < ss.length := by
        have h1 := group_lt (G := G) (by omega) hi
        have h2 : (ss.length : Int) = ((N + G - 1) / G : Nat) := by
          rw [hl1]
          have : ((N + G - 1 : Nat) : Int) = (N : Int) + (G : Int) - 1 := by omega
          rw [← this]; rfl
        omega
      obtain ⟨b, off, e, _, hb, hcell⟩ := hS.cells.2.2.2 (Nat.lt_of_le_of_lt (Nat.zero_le _) hlt)
      obtain ⟨x0, x1⟩ := hS.get (i / G)
      have h5 := hl3 (i / G)
      refine ⟨b, off, (ss.getD (i / G) 0).toNat, i / G, e, rfl, hlt, by omega, rfl, fun W hF => ?_⟩
      rw [(hF.cell (p := ⟨b, off + i / G, none⟩) hb (fun e => e)).trans (hcell _ hlt)]
      congr 2
      omega
    have HNar : Hid (∀ (y : Int) (W : World), _) := fun y W => narrow_any y W
    obtain ⟨ls, hls⟩ : ∃ ls, ss.length = ls := ⟨_, rfl⟩
    obtain ⟨lh, hlh⟩ : ∃ lh, hs.length = lh := ⟨_, rfl⟩
    rw [hls] at HSh HP c2 hW0 HIs ⊢
    rw [hlh] at HSaid HP c3 hW0 HIs ⊢
    clear hS hH hbox hF0 hr hl1 hl2 hl3 hls hlh
    go_enter Try.func21, Try.ntmps21
    go_wp2_with fail
    rw [← hW0]
    refine (HIs.out ()).mono ?_
    rintro e w1 ⟨rfl, hF1⟩
    have HF1 : Hid (Fresh W0 w1) := hF1
    clear HIs hF1 hW0 c0 c1 c2 c3
    obtain ⟨c0, c1, c2, c3⟩ := HP.out w1 HF1.out
    have hmk := run_mk ty8 N N (Nat.le_refl _) (by simp [kb]; omega) w1
    have hO := own_made .i8 38 w1 w1.heap.size (Nat.le_refl _) N N (Nat.le_refl _) (by omega)
    have hFm : Fresh w1 (w1.alloc (.cells ((List.replicate N (0 : Int)).map (Value.int .i8)).toArray 38)) := (Kept.refl _ w1).alloc _
    generalize w1.alloc (.cells ((List.replicate N (0 : Int)).map (Value.int .i8)).toArray 38) = W2 at *
    have HO : Hid (W2.ownsRow w1.heap.size 38 1 (.slice (some ⟨w1.heap.size, 0, none⟩) N N) N (((uA N G ss hs).take 0 ++ List.replicate (N - 0) 0).map (Value.int .i8)) ∧ Fresh w1 W2) := ⟨hO, hFm⟩
    have hGz : ¬ (G : Int) = 0 := by omega
    clear hO hFm
    go_wp2
    clear hmk c0 c1 c2 c3
    go_loopw [14] (fun iv wr => ∃ j : Nat, j ≤ N ∧ iv = zV j ∧ Hid (wr.ownsRow w1.heap.size 38 1 (.slice (some ⟨w1.heap.size, 0, none⟩) N N) N (((uA N G ss hs).take j ++ List.replicate (N - j) 0).map (Value.int .i8)) ∧ Fresh w1 wr)) (fun iv _ => N - (RowKit.intOf iv).toNat)
    case atStart => exact ⟨0, Nat.zero_le _, rfl, HO.out⟩
    case round =>
      obtain ⟨j, hj, rfl, HA⟩ := hrel
      clear HO
      by_cases hlt : j < N
      · obtain ⟨b, off, k, q, rfl, hq, hql, hk5, hkk, hcell⟩ := HSh.out j hlt
        have hFw : Hid (∀ W, Fresh w1 W → Fresh w W ∧ Fresh W0 W) := fun W hF => ⟨(HF0.out.trans HF1.out (fun _ _ e => e)).trans hF (fun _ _ e => e), HF1.out.trans hF (fun _ _ e => e)⟩
        have HSt : Hid (∀ W, Fresh w1 W → W.cell? ⟨w.heap.size, 1, none⟩ = some (zV (G : Int)) ∧ W.cell? ⟨w.heap.size, 2, none⟩ = some (.slice (some ⟨b, off, none⟩) ls scp) ∧ W.cell? ⟨w.heap.size, 3, none⟩ = some (.slice ba lh bcp) ∧ W.cell? ⟨b, off + q, none⟩ = some (uV (k : Int))) := fun W hF => ⟨(HP.out W (hFw.out W hF).2).2.1, (HP.out W (hFw.out W hF).2).2.2.1, (HP.out W (hFw.out W hF).2).2.2.2, hcell W (hFw.out W hF).1⟩
        have hlt' : (j : Int) < (N : Int) := by omega
        have hq' : (j : Int) / (G : Int) = (q : Int) := by rw [← hq]; rfl
        have hql' : (q : Int) < (ls : Int) := by omega
        have hGp : (0 : Int) < (G : Int) := by omega
        have hqb : q ≤ 1048576 := by rw [← hq]; exact Nat.le_trans (Nat.div_le_self _ _) (by omega)
        have hqb' : (q : Int) ≤ 1048576 := by omega
        have hql2 : (j : Int) / (G : Int) < (ls : Int) := by rw [hq']; exact hql'
        have hql3 : (0 : Int) ≤ (j : Int) / (G : Int) := by rw [hq']; omega
        obtain ⟨y, hy⟩ : ∃ y, s4 (nib hs j) = y := ⟨_, rfl⟩
        have hyb := s4_bound (nib hs j)
        rw [hy] at hyb
        have hpb := small_shl hyb hk5
        obtain ⟨P, hP⟩ : ∃ P, y * 2 ^ k = P := ⟨_, rfl⟩
        rw [hP] at hpb
        obtain ⟨p0, p1⟩ := hpb
        have hwP : IntKind.i64.wrap P = P := by first | (rw [IntKind.wrap_i64]; omega) | (rw [IntKind.wrap_i64]; unfold wrap64; omega)
        obtain ⟨Q, hQ⟩ : ∃ Q, clamp P (-127) 127 = Q := ⟨_, rfl⟩
        have HC1 : Hid (Unit → _) := fun (_ : Unit) => HSaid.out wr.drew j (hFw.out _ HA.out.2.drew).1 hlt
        rw [hy] at HC1
        have HC2 : Hid (Unit → _) := fun (_ : Unit) => HNar.out P wr.drew
        rw [hQ] at HC2
        have hpl : ((uA N G ss hs).take j).length = j := by rw [List.length_take, uA_length]; omega
        have HSt2 : Hid ((uA N G ss hs).take (j + 1) = (uA N G ss hs).take j ++ [Q]) := by
          have : uN G ss hs j = Q := by unfold uN; rw [hy, hq, hkk, hP, hQ]
          show _ = _
          unfold uA
          rw [range_take _ hlt, this]
        have HX : Hid (∀ d, ((wr.drewN d).setCell ⟨w1.heap.size, j, none⟩ (.int .i8 Q)).ownsRow w1.heap.size 38 1 (.slice (some ⟨w1.heap.size, 0, none⟩) N N) N (((uA N G ss hs).take (j + 1) ++ List.replicate (N - (j + 1)) 0).map (Value.int .i8)) ∧ Fresh w1 ((wr.drewN d).setCell ⟨w1.heap.size, j, none⟩ (.int .i8 Q))) := fun d => by
          have hO3 : (wr.drewN d).ownsRow w1.heap.size 38 1 (.slice (some ⟨w1.heap.size, 0, none⟩) N N) N (((uA N G ss hs).take j ++ List.replicate (N - j) 0).map (Value.int .i8)) := owns_kept HA.out.1 ((Kept.refl (fun _ => False) wr).drewN d) (fun _ _ e => e)
          refine ⟨?_, (HA.out.2.drewN d).setCell (fun e => absurd e (Nat.lt_irrefl _)) _⟩
          have := own_setB (i := j) (x := Value.int .i8 Q) hO3
          rw [← List.map_set, show N - j = (N - (j + 1)) + 1 by omega, set_at hpl] at this
          rw [HSt2.out]
          exact this
        have f1 : wr.frozen? ⟨w1.heap.size, j, none⟩ = false := own_frozen HA.out.1 j
        have g1 := own_get HA.out.1 j hlt
        have hS0 := HSt.out wr.drew HA.out.2.drew
        obtain ⟨r1, r2, r3, r4⟩ := HSt.out wr HA.out.2
        clear hcell hpl HSt2 hq hkk hyb
        generalize ((uA N G ss hs).take j ++ List.replicate (N - j) 0).getD j 0 = old at *
        go_wp2_with fail
        go_region_held_law (fun X => X.cell? ⟨w.heap.size, 1, none⟩ = some (zV (G : Int)) ∧ X.cell? ⟨w.heap.size, 2, none⟩ = some (.slice (some ⟨b, off, none⟩) ls scp) ∧ X.cell? ⟨w.heap.size, 3, none⟩ = some (.slice ba lh bcp) ∧ X.cell? ⟨b, off + q, none⟩ = some (uV (k : Int)))
          (first | exact hS0 | exact hS5 | exact HSt.out _ (HX.out _).2 | assumption)
          (first
            | (go_at_call 45; (with_reducible refine (HC1.out ()).mono ?_); rintro q5 X5 ⟨rfl, rfl⟩)
            | (go_at_call 36; (with_reducible refine (HC2.out ()).mono ?_); rintro q5 X5 ⟨rfl, d5, rfl⟩; have hS5 := HSt.out _ (HA.out.2.drew.drewN d5)))
        all_goals
          have HY := show Hid _ from HX.out (1 + d5)
          clear hS0 hS5 HA HX r1 r2 r3 r4 g1 f1
          go_wp2
          go_roundw
          case rel => exact ⟨j + 1, hlt, by go_num, HY.out⟩
          case measure => simp [RowKit.intOf]; omega
      · obtain rfl : j = N := by omega
        have HX : Hid (Gives .i8 38 (uA j G ss hs) 0 w (.returned (.tuple #[.slice (some ⟨w1.heap.size, 0, none⟩) j j, zV 0])) wr) := by
          have hO := HA.out.1
          rw [Nat.sub_self, List.replicate_zero, List.append_nil, List.take_of_length_le (by rw [uA_length]; exact Nat.le_refl _)] at hO
          exact ⟨_, rfl, by rw [uA_length]; exact own_low hO (HF0.out.trans HF1.out (fun _ _ e => e)).size, (HF0.out.trans HF1.out (fun _ _ e => e)).trans HA.out.2 (fun _ _ e => e)⟩
        clear HA HSh HSaid
        go_wp2
        go_ret2
        exact HX.out
end Go.Proofs.Ytlepdogfgpeogaa
