/-
  A sample of a shape: the walk.
-/
import Derived.Test.YtakiimjldccgcabDoorShVbToRgc
import Derived.Test.YtakiimjldccgcabDoorShJToShN
namespace Go.Proofs.YtakiimjldccgcabDoor
open Go.RowKit Go.Lib Go.Maps

/-- The generator's first number. -/
def sdF (seed : Int) : Nat := (seed % 18446744073709551616).toNat
/-- A sample's block, from a state of the generator on. -/
def blF (st A B D N : Nat) : Bk := ⟨mkL D (fun _ => 64), gL st A, gL (gN st A) A, gL (gN (gN st A) A) A, gL (gN (gN (gN st A) A) A) A, mkL D (fun _ => 64), 7 + (dbF D : Int), 7 + (dbF D : Int), 7 + (dbF D : Int), 4 + (dbF D : Int), 3,
  gL (gN (gN (gN (gN st A) A) A) A) B, gL (gN (gN (gN (gN (gN st A) A) A) A) B) B, gL (gN (gN (gN (gN (gN (gN st A) A) A) A) B) B) B, 7 + (dbF D : Int), 7 + (dbF D : Int), 4 + (dbF N : Int)⟩
/-- The generator's state ahead of block i. -/
def stF (st0 A1 A3 A4 : Nat) : Nat → Nat
  | 0 => gN st0 A1
  | i + 1 => gN (gN (gN (gN (gN (gN (gN (stF st0 A1 A3 A4 i) A3) A3) A3) A3) A4) A4) A4
/-- The model of a number and a shape. -/
def smF (s : Shp) (V C D L N P : Nat) (seed : Int) (T : List (List UInt8)) (M : List Mg) : Md :=
  ⟨s, T, M, gL (sdF seed) (V * D), 2, cosL (C : Int) (P : Int) 1 1, sinL (C : Int) (P : Int) 1 1, mkB L (fun i => blF (stF (sdF seed) (V * D) (D * D) (N * D) i) (D * D) (N * D) D N), tbL 2, mkL D (fun _ => 64), gL (stF (sdF seed) (V * D) (D * D) (N * D) L) (V * D), 4 + (dbF D : Int)⟩
theorem stF_lt {st0 A1 A3 A4 : Nat} (h : st0 < 18446744073709551616) : ∀ j, stF st0 A1 A3 A4 j < 18446744073709551616
  | 0 => gN_lt h _
  | j + 1 => gN_lt (gN_lt (gN_lt (gN_lt (gN_lt (gN_lt (gN_lt (stF_lt h j) _) _) _) _) _) _) _
theorem blk_of {st A B D N : Nat} {p : Nat → Prop} {w : World} {g1 g2 q1 q2 q3 q4 q5 q6 q7 : Nat} (h : BkRows st A B D p w g1 g2 q1 q2 q3 q4 q5 q6 q7) :
    BkC p w (blkC (sl g1 D) (sl q1 A) (sl q2 A) (sl q3 A) (sl q4 A) (sl g2 D) (7 + (dbF D : Int)) (7 + (dbF D : Int)) (7 + (dbF D : Int)) (4 + (dbF D : Int)) 3 (sl q5 B) (sl q6 B) (sl q7 B) (7 + (dbF D : Int)) (7 + (dbF D : Int)) (4 + (dbF N : Int))) (blF st A B D N) := by
  have h1 := dbF_le D
  have h2 := dbF_le N
  refine ⟨_, _, _, _, _, _, _, _, _, rfl, h.r1, h.x1, h.x2, h.x3, h.x4, h.r2, h.x5, h.x6, h.x7, fun x hx => ?_⟩
  have hx' : x ∈ [7 + (dbF D : Int), 7 + (dbF D : Int), 7 + (dbF D : Int), 4 + (dbF D : Int), 3, 7 + (dbF D : Int), 7 + (dbF D : Int), 4 + (dbF N : Int)] := hx
  simp only [List.mem_cons, List.not_mem_nil, or_false] at hx'
  unfold I64
  omega
set_option maxHeartbeats 1000000 in
set_option maxRecDepth 100000 in
theorem Sample_any (s : Shp) (V C D L N P : Nat) (seed : Int) (w : World) (hs : Rsh s V C D L N P) (hSin : Sin w) (hBe : Bend w) (T : List (List UInt8)) (M : List Mg)
    (hsv : ∀ X, Calls Tryd.prog 44 #[zV (V : Int)] X fun e w' => ∃ tv mv, e = .returned (.agg #[tv, mv]) ∧ TxR (fun b => X.heap.size ≤ b) w' tv T ∧ MgR (fun b => X.heap.size ≤ b) w' mv M ∧ Fresh X w') (hM0 : 0 < M.length → (gM M 0).l ≠ 0) :
    Calls Tryd.prog 20 #[s.val, zV seed] w fun e w' => ∃ tv mv ev cv sv bv bev gv uv, e = .returned (.tuple #[.agg (mdlC s tv mv ev 2 cv sv bv bev gv uv (4 + (dbF D : Int))), zV 0]) ∧ MdC (fun b => w.heap.size ≤ b) w' (smF s V C D L N P seed T M) tv mv ev cv sv bv bev gv uv ∧ Fresh w w' := by
  have HSV := show Hid _ from hsv
  have HTB : Hid (∀ X, Fresh w X → Calls Tryd.prog 47 #[zV (C : Int), zV (P : Int)] X fun e w' => ∃ u v, e = .returned (.tuple #[u, v, zV (stE (C : Int) (P : Int) 1 1)]) ∧ Rk .i8 (fun b => X.heap.size ≤ b ∧ b < w'.heap.size) w' u (cosL (C : Int) (P : Int) 1 1) ∧ Rk .i8 (fun b => X.heap.size ≤ b ∧ b < w'.heap.size) w' v (sinL (C : Int) (P : Int) 1 1) ∧ Fresh X w') := fun X hX => (ropeTable_any (C : Int) (P : Int) X (hSin.fresh hX)).mono fun e w' h => h.rows (by have := cosL_len (C : Int) (P : Int) 1 1; omega) (by have := cosL_len (C : Int) (P : Int) 1 1; rw [sinL_len]; omega) (cosL_c8 _ _ _ _) (sinL_c8 _ _ _ _)
  have HBT : Hid (∀ X, Fresh w X → Calls Tryd.prog 48 #[zV 2] X fun e w' => ∃ v, e = .returned (.tuple #[v, zV (tbE 2)]) ∧ Rk .i8 (fun b => X.heap.size ≤ b ∧ b < w'.heap.size) w' v (tbL 2) ∧ Fresh X w') := fun X hX => (Table_any 2 X (hBe.fresh hX) (by unfold I64; omega)).mono fun e w' h => h.row (by have := tbL_len 2; simp [kb]; omega) (tbL_c8 2)
  have HM0 : Hid (0 < M.length → (gM M 0).l ≠ 0) := hM0
  have HCK : Hid (∀ X, Calls Tryd.prog 11 #[s.val] X fun e w' => e = .returned (zV 0) ∧ Fresh X w') := fun X => (Check_any s X).mono fun e w' ⟨h1, h2⟩ => ⟨by rw [h1, shE_ok hs.ok], by rw [h2]; exact (Kept.refl _ X).alloc _⟩
  have HSZ : Hid (∀ X, _) := fun X => sizesOf_any s V C D L N P X hs
  have HHF : Hid (∀ X, Calls Tryd.prog 23 #[s.val] X fun e w' => e = .returned (zV (P : Int)) ∧ Fresh X w') := fun X => by
    have := Half_any s X
    rwa [shH_ok hs.ok, hs.p] at this
  have HGA : Hid (∀ X, Calls Tryd.prog 45 #[zV (D : Int)] X fun e w' => ∃ q, e = .returned (.slice (some ⟨q, 0, none⟩) D D) ∧ w'.ownsRow X.heap.size 68 1 (.slice (some ⟨q, 0, none⟩) D D) D ((mkL D (fun _ => 64)).map (Value.int .i8)) ∧ Fresh X w') := fun X => gains_any D X (by have := hs.d1; omega)
  have HDB : Hid (∀ W, Calls Tryd.prog 46 #[zV (D : Int)] W fun e w' => e = .returned (zV (dbF D : Int)) ∧ w' = W) := fun W => doublings_any D W (by have := hs.d1; omega)
  have hdb := dbF_le D
  have HD4 : Hid (dbF D ≤ 4) := hdb
  have HOK : Hid (Shp.Ok ⟨V, C, D, s.h, L, N⟩) := by
    obtain ⟨_, _, _, _, _, _, _, _, _, _, _, _, _, _, _, _, _, _, _, _, _, _, _, _, x1, x2⟩ := shB_sizes hs.ok
    have := hs.v1
    have := hs.c1
    have := hs.d1
    have := hs.l1
    have := hs.n1
    show Shp.Ok _
    unfold Shp.Ok I64
    simp only
    omega
  have hd4 := hs.d1
  obtain ⟨f1, f2, f3, f4, f5⟩ := And.intro hs.v (And.intro hs.c (And.intro hs.d (And.intro hs.l hs.n)))
  have HS := show Hid _ from hs
  clear hs hSin hBe hsv hM0
  unfold Shp.val at HCK HSZ HHF
  unfold Shp.val smF
  obtain ⟨sv1, sv2, sv3, hh, sv5, sv6⟩ := s
  simp only at f1 f2 f3 f4 f5 HOK HCK HSZ HHF
  subst f1 f2 f3 f4 f5
  simp only
  have hm1 : V * D ≤ 32768 := nat_mul_le HS.out.v1.2 HS.out.d1.2
  have hm3 : D * D ≤ 4096 := nat_mul_le HS.out.d1.2 HS.out.d1.2
  have hm4 : N * D ≤ 16384 := nat_mul_le HS.out.n1.2 HS.out.d1.2
  have hd1 := HS.out.d1
  have hn1 := HS.out.n1
  have hl1 := HS.out.l1
  have HBK : Hid (∀ (A1 A2 g st : Nat) (X : World), GnAt X g st → st < 18446744073709551616 → Calls Tryd.prog 50 #[.pointer (some ⟨g, 0, none⟩), .agg #[zV (V : Int), zV (C : Int), zV (D : Int), zV hh, zV (L : Int), zV (N : Int)], .agg #[zV (A1 : Int), zV (A2 : Int), zV (D : Int), zV ((D * D : Nat) : Int), zV ((N * D : Nat) : Int)]] X fun e w' => ∃ K, e = .returned (.agg K) ∧ BkC (fun b => X.heap.size ≤ b) w' K (blF st (D * D) (N * D) D N) ∧ Kept (fun b => b = g) X w' ∧ GnAt w' g (gN (gN (gN (gN (gN (gN (gN st (D * D)) (D * D)) (D * D)) (D * D)) (N * D)) (N * D)) (N * D))) := fun A1 A2 g st X hg hst => (block_any g st D N (V : Int) (C : Int) hh (L : Int) (A1 : Int) (A2 : Int) X hg hst hd1 hn1).mono fun e w' ⟨g1, g2, q1, q2, q3, q4, q5, q6, q7, h1, h2, h3, h4⟩ => ⟨_, h1, blk_of h2, h3, h4⟩
  have HNU : Hid (∀ (g st : Nat) (X : World), GnAt X g st → st < 18446744073709551616 → Calls Tryd.prog 49 #[.pointer (some ⟨g, 0, none⟩), zV ((V * D : Nat) : Int)] X fun e w' => ∃ q, e = .returned (.slice (some ⟨q, 0, none⟩) (V * D) (V * D)) ∧ Rk .i8 (fun b => b = q) w' (.slice (some ⟨q, 0, none⟩) (V * D) (V * D)) (gL st (V * D)) ∧ X.heap.size ≤ q ∧ Kept (fun b => b = g) X w' ∧ GnAt w' g (gN st (V * D))) := fun g st X hg hst => (numbers_any g st (V * D) X hg (by omega)).mono fun e w' ⟨q, h1, h2, h3, h4⟩ => ⟨q, h1, (gL_row h2 hst (by omega)).1, (gL_row h2 hst (by omega)).2, h3, h4⟩
  generalize tbL 2 = bL at *
  generalize tbE 2 = bE at *
  generalize hA1 : V * D = A1 at *
  generalize hA2 : C * P = A2 at *
  generalize hA3 : D * D = A3 at *
  generalize hA4 : N * D = A4 at *
  clear hA1 hA2 hA3 hA4
  have HST0 : Hid (sdF seed < 18446744073709551616) := by show _ < _; unfold sdF; omega
  have HSW : Hid (IntKind.u64.wrap seed = ((sdF seed : Nat) : Int)) := by
    show _ = _
    unfold sdF
    rw [IntKind.wrap_u64, Int.toNat_of_nonneg (Int.emod_nonneg _ (by decide))]
  have HST : Hid (∀ j, stF (sdF seed) A1 A3 A4 j < 18446744073709551616) := stF_lt HST0.out
  have HSN : Hid (∀ j, stF (sdF seed) A1 A3 A4 (j + 1) = gN (gN (gN (gN (gN (gN (gN (stF (sdF seed) A1 A3 A4 j) A3) A3) A3) A3) A4) A4) A4) := fun j => rfl
  have HS0 : Hid (gN (sdF seed) A1 = stF (sdF seed) A1 A3 A4 0) := rfl
  obtain ⟨SF, hSF⟩ : ∃ SF, stF (sdF seed) A1 A3 A4 = SF := ⟨_, rfl⟩
  rw [hSF] at HST HSN HS0 ⊢
  clear hSF
  generalize sdF seed = st0 at *
  generalize cosL (C : Int) (P : Int) 1 1 = cL at *
  generalize sinL (C : Int) (P : Int) 1 1 = sL at *
  generalize stE (C : Int) (P : Int) 1 1 = tE at *
  generalize dbF D = db at *
  obtain ⟨SV, hSV⟩ : ∃ SV, (#[zV (V : Int), zV (C : Int), zV (D : Int), zV hh, zV (L : Int), zV (N : Int)] : Array Value) = SV := ⟨_, rfl⟩
  rw [hSV] at HCK HSZ HHF ⊢
  have HSVE := show Hid _ from hSV
  clear hSV
  have HB := show Hid _ from box2 w SV mdl0 23 48
  unfold mdl0 at HB
  have HS6 : Hid (SV.size = 6) := by rw [← HSVE.out]; rfl
  go_enter Tryd.func20, Tryd.ntmps20
  go_upto_region 1 with fail
  generalize (w.alloc (.cells SV 23)).alloc (.cells #[zV 0, zV 0, zV 0, zV 0, zV 0, zV 0, nil8, nil8, nil8, zV 0, nil8, nil8, nil8, nil8, nil8, nil8, zV 0] 48) = W0 at *
  have HLS : Hid (∀ X, Fresh W0 X → (loadVar 23 ⟨w.heap.size, 0, none⟩).run Tryd.prog X = .ok (.agg SV) X) := fun X hX => run_loadVar_row X w.heap.size 23 23 SV _ _ (HB.out X hX).2.1 Tryd.underlying23 rfl (by rw [HS6.out]; exact shpSize)
  go_wp2_with (refine wpList_loadAt rfl 23 _ rfl w.heap.size 0 rfl SV (HLS.out _ (Kept.refl _ _)) ?_)
  refine Calls.mono (HCK.out _) ?_
  rintro e X ⟨rfl, hf⟩
  have HX : Hid (Fresh W0 X) := hf
  clear hf HCK
  go_upto_region 4 with fail
  go_wp2_with (refine wpList_loadAt rfl 23 _ rfl w.heap.size 0 rfl SV (HLS.out _ HX.out) ?_)
  refine Calls.mono (HSZ.out _) ?_
  rintro e X2 ⟨rfl, hf⟩
  have HX2 : Hid (Fresh W0 X2) := HX.out.trans hf (fun _ _ e => e)
  clear hf HSZ HX
  go_upto_region 5 with fail
  have hq := box2 X2 #[zV (A1 : Int), zV (A2 : Int), zV (D : Int), zV (A3 : Int), zV (A4 : Int)] #[.int .u64 (IntKind.u64.wrap seed)] 81 114 _ (Kept.refl _ _)
  rw [HSW.out] at hq
  rw [HSW.out]
  obtain ⟨hq1, hq2, hq3⟩ := hq
  obtain ⟨hb1, hb2, hb3⟩ := HB.out X2 HX2.out
  have hbs := lt_of_heap hb3
  have hq4 := lt_of_heap hq3
  have HSA : Hid (Sa w ((X2.alloc (.cells #[zV (A1 : Int), zV (A2 : Int), zV (D : Int), zV (A3 : Int), zV (A4 : Int)] 81)).alloc (.cells #[.int .u64 (st0 : Int)] 114)) SV #[zV (A1 : Int), zV (A2 : Int), zV (D : Int), zV (A3 : Int), zV (A4 : Int)] X2.heap.size (X2.heap.size + 1) st0) :=
    ⟨hb1.trans hq1 (fun _ _ e => e), hq1.at hb2 (fun e => e), hq1.at hb3 (fun e => e), hq2, ⟨by rw [Lib.cell_of_heap hq3]; rfl, Lib.frozen_of_heap hq3 _, hq4⟩, by omega, by omega, by omega⟩
  clear hq1 hq2 hq3 hb1 hb2 hb3 hbs HX2 HB HLS
  generalize hW5 : (X2.alloc (.cells #[zV (A1 : Int), zV (A2 : Int), zV (D : Int), zV (A3 : Int), zV (A4 : Int)] 81)).alloc (.cells #[.int .u64 (st0 : Int)] 114) = W5 at *
  clear hW5
  obtain ⟨q8, hq8⟩ : ∃ q8, X2.heap.size + 1 = q8 := ⟨_, rfl⟩
  rw [hq8] at HSA hq4 ⊢
  generalize X2.heap.size = q7 at *
  have HQ : Hid (q7 + 1 = q8) := hq8
  clear hq8
  have wdb : IntKind.i64.wrap (4 + (db : Int)) = 4 + (db : Int) := by rw [IntKind.wrap_i64]; omega
  refine region_psi 13 (by kernel_rfl) (by simp) (by kernel_rfl) (fun vs => { tmps := #[.agg SV, zV seed, .pointer (some ⟨w.heap.size, 0, none⟩), undef, .pointer (some ⟨w.heap.size + 1, 0, none⟩), zV 0, zV 0, .pointer (some ⟨q7, 0, none⟩), .pointer (some ⟨q8, 0, none⟩), vs 12, .agg SV, zV 0, zV 0, .bool false, undef, undef, .agg SV, .agg #[zV (A1 : Int), zV (A2 : Int), zV (D : Int), zV (A3 : Int), zV (A4 : Int)], zV seed, .int .u64 (st0 : Int), vs 0, vs 1, vs 2, vs 3, vs 4, vs 5, vs 6, vs 7, vs 8, vs 9, vs 10, vs 11, undef, undef, undef, undef, undef, undef, undef, undef, undef, undef, undef, undef, undef, undef, undef, undef, undef, undef, undef, undef, undef, undef, undef, undef, undef, undef, undef, undef, undef, undef, undef, undef, undef, undef, undef, undef, undef, undef], defers := [] }) (saP ⟨V, C, D, hh, L, N⟩ SV V D w.heap.size db T M W5) (saP_fresh _ SV V D w.heap.size db T M W5) (fun _ => undef) rfl ?_ ?_
  · intro vs X hX i o ho hik hd K hK
    have hSX := HSA.out.next hX
    have hl := hSX.shp HS6.out
    have HBS := show Hid _ from hSX.bx
    have c0 : X.cell? ⟨w.heap.size, 0, none⟩ = some (zV (V : Int)) := by rw [Lib.cell_of_heap HBS.out, ← HSVE.out]; rfl
    have c2 : X.cell? ⟨w.heap.size, 2, none⟩ = some (zV (D : Int)) := by rw [Lib.cell_of_heap HBS.out, ← HSVE.out]; rfl
    rcases (show i = 0 ∨ i = 1 ∨ i = 2 ∨ i = 3 ∨ i = 4 ∨ i = 5 ∨ i = 6 ∨ i = 7 ∨ i = 8 ∨ i = 9 ∨ i = 10 ∨ i = 11 ∨ i = 12 by omega) with rfl | rfl | rfl | rfl | rfl | rfl | rfl | rfl | rfl | rfl | rfl | rfl | rfl
    all_goals
      simp only [List.getElem?_cons_succ, List.getElem?_cons_zero, Option.some.injEq] at ho
      subst ho
    · rw [if_pos (show Region.wanted _ _ = true from rfl)]
      refine wp_loadAt 23 _ rfl w.heap.size 0 rfl SV hl ?_
      have h := hK (.agg SV) X (Kept.refl _ _) rfl
      simp [upd] at h
      exact h
    · go_simp
      exact hK _ X (Kept.refl _ _) rfl
    · simp only [Array.mem_def, List.mem_cons, List.not_mem_nil, or_false, forall_eq] at hd
      have e : vs 1 = .pointer (some ⟨w.heap.size, 0, none⟩) := hd rfl
      simp only [e]
      go_simp
      have h := hK (zV (V : Int)) X (Kept.refl _ _) rfl
      simp [upd, e] at h
      exact h
    · simp only [Array.mem_def, List.mem_cons, List.not_mem_nil, or_false, forall_eq] at hd
      have e : vs 2 = zV (V : Int) := hd rfl
      simp only [e]
      go_simp
      refine Calls.mono (HSV.out X) ?_
      rintro e2 Y ⟨tv, mv, rfl, h1, h2, hf⟩
      have h := hK (.agg #[tv, mv]) Y hf ⟨tv, mv, rfl, h1.mono (fun b hb => Nat.le_trans hX.size hb), h2.mono (fun b hb => Nat.le_trans hX.size hb)⟩
      simp [upd, e] at h
      exact h
    · go_simp
      exact hK _ X (Kept.refl _ _) rfl
    · simp only [Array.mem_def, List.mem_cons, List.not_mem_nil, or_false, forall_eq] at hd
      have e : vs 4 = .pointer (some ⟨w.heap.size, 2, none⟩) := hd rfl
      simp only [e]
      go_simp
      have h := hK (zV (D : Int)) X (Kept.refl _ _) rfl
      simp [upd, e] at h
      exact h
    · simp only [Array.mem_def, List.mem_cons, List.not_mem_nil, or_false, forall_eq_or_imp, forall_eq] at hd
      have e : vs 5 = zV (D : Int) := hd.1 rfl
      simp only [e]
      go_simp
      refine Calls.mono (HGA.out X) ?_
      rintro e2 Y ⟨q, rfl, ho, hf⟩
      have h := hK (.slice (some ⟨q, 0, none⟩) D D) Y hf ⟨q, rfl, (rk_of_own ho (by rw [mkL_len]; simp [kb]; omega) (fun z hz => by obtain ⟨_, _, e⟩ := mkL_mem hz; rw [e]; simp [Fit, C8])).mono (fun b hb => Nat.le_trans hX.size hb.1)⟩
      simp [upd, e] at h
      exact h
    · go_simp
      exact hK _ X (Kept.refl _ _) rfl
    · simp only [Array.mem_def, List.mem_cons, List.not_mem_nil, or_false, forall_eq] at hd
      have e : vs 7 = .pointer (some ⟨w.heap.size, 2, none⟩) := hd rfl
      simp only [e]
      go_simp
      have h := hK (zV (D : Int)) X (Kept.refl _ _) rfl
      simp [upd, e] at h
      exact h
    · simp only [Array.mem_def, List.mem_cons, List.not_mem_nil, or_false, forall_eq_or_imp, forall_eq] at hd
      have e : vs 8 = zV (D : Int) := hd.1 rfl
      simp only [e]
      go_simp
      refine Calls.mono (HDB.out X) ?_
      rintro e2 Y ⟨rfl, rfl⟩
      have h := hK (zV (db : Int)) Y (Kept.refl _ _) rfl
      simp [upd, e] at h
      exact h
    · simp only [Array.mem_def, List.mem_cons, List.not_mem_nil, or_false, forall_eq] at hd
      have e : vs 9 = zV (db : Int) := hd rfl
      simp only [e]
      go_simp
      have h := hK (zV (4 + (db : Int))) X (Kept.refl _ _) rfl
      simp [upd, e] at h
      exact h
    · simp only [Array.mem_def, List.mem_cons, List.not_mem_nil, or_false, forall_eq_or_imp, forall_eq] at hd
      obtain ⟨h0, h3, h6, h10⟩ := hd
      have e0 : vs 0 = .agg #[zV (V : Int), zV (C : Int), zV (D : Int), zV hh, zV (L : Int), zV (N : Int)] := by rw [HSVE.out]; exact h0 rfl
      obtain ⟨tv, mv, e3, r1, r2⟩ : saP ⟨V, C, D, hh, L, N⟩ SV V D w.heap.size db T M W5 3 (vs 3) X := h3 rfl
      obtain ⟨g, e6, r3⟩ : saP ⟨V, C, D, hh, L, N⟩ SV V D w.heap.size db T M W5 6 (vs 6) X := h6 rfl
      have e10 : vs 10 = zV (4 + (db : Int)) := h10 rfl
      rw [e6] at r3
      obtain ⟨to1, tc, rfl⟩ := r1.shape
      obtain ⟨mo, mc, rfl⟩ := r2.shape
      have h := hK (.agg (mdlC ⟨V, C, D, hh, L, N⟩ (.slice to1 T.length tc) (.slice mo M.length mc) nil8 2 nil8 nil8 nil8 nil8 (.slice (some ⟨g, 0, none⟩) D D) nil8 (4 + (db : Int)))) X (Kept.refl _ _) ⟨_, _, g, rfl, r1, r2, r3⟩
      simp only [e0, e3, e6, e10]
      go_simp
      simp [upd, e0, e3, e6, e10, mdlC] at h
      exact h
    · go_simp
      exact hK (.pointer (some ⟨X.heap.size, 0, none⟩)) _ ((Kept.refl _ X).alloc _) ⟨_, rfl, hX.size, heap_alloc_new X _⟩
  · intro vs X hX hall
    obtain ⟨tv, mv, g, e11, r1, r2, r3⟩ : saP ⟨V, C, D, hh, L, N⟩ SV V D w.heap.size db T M W5 11 (vs 11) X := hall 11 (by decide)
    obtain ⟨q9, e12, hq9, hbk⟩ : saP ⟨V, C, D, hh, L, N⟩ SV V D w.heap.size db T M W5 12 (vs 12) X := hall 12 (by decide)
    have e0 : vs 0 = .agg SV := hall 0 (by decide)
    have e1 : vs 1 = .pointer (some ⟨w.heap.size, 0, none⟩) := hall 1 (by decide)
    have e2 : vs 2 = zV (V : Int) := hall 2 (by decide)
    have e4 : vs 4 = .pointer (some ⟨w.heap.size, 2, none⟩) := hall 4 (by decide)
    have e5 : vs 5 = zV (D : Int) := hall 5 (by decide)
    have e7 : vs 7 = .pointer (some ⟨w.heap.size, 2, none⟩) := hall 7 (by decide)
    have e8 : vs 8 = zV (D : Int) := hall 8 (by decide)
    have e9 : vs 9 = zV (db : Int) := hall 9 (by decide)
    have e10 : vs 10 = zV (4 + (db : Int)) := hall 10 (by decide)
    simp only [e0, e1, e2, e4, e5, e7, e8, e9, e10, e11, e12]
    obtain ⟨v3, hv3⟩ : ∃ v3, vs 3 = v3 := ⟨_, rfl⟩
    obtain ⟨v6, hv6⟩ : ∃ v6, vs 6 = v6 := ⟨_, rfl⟩
    simp only [hv3, hv6]
    clear hall e0 e1 e2 e4 e5 e7 e8 e9 e10 e11 e12 hv3 hv6
    simp only [List.drop_succ_cons, List.drop_zero]
    obtain ⟨to1, tc, rfl⟩ := r1.shape
    obtain ⟨mo, mc, rfl⟩ := r2.shape
    refine tail_store rfl 48 _ _ rfl q9 _ _ 48 rfl rfl hbk rfl (by kernel_rfl) (by simp [Value.oneCell', mdlC]) ?_
    intro Y hY hk
    refine tail_nil ?_
    have hXs := hX.size
    have hSY : Sa w Y SV #[zV (A1 : Int), zV (A2 : Int), zV (D : Int), zV (A3 : Int), zV (A4 : Int)] q7 q8 st0 := (HSA.out.next hX).kept hk (fun b e => by
      have e' : b = q9 := e
      have h8 := HSA.out.n8
      have hq := HQ.out
      omega)
    have HR1 : Hid (MdS (Zn W5.heap.size q9 nil8) Y ⟨⟨V, C, D, hh, L, N⟩, T, M, [], 2, [], [], [], [], mkL D (fun _ => 64), [], 4 + (db : Int)⟩ (.slice to1 T.length tc) (.slice mo M.length mc) nil8 nil8 nil8 nil8 (.slice (some ⟨g, 0, none⟩) D D) nil8) := by
      have hn : ∀ b, (W5.heap.size ≤ b ∧ b ≠ q9) → ¬ (fun z => z = q9) b := fun b h e => h.2 e
      have hz : ∀ b, (W5.heap.size ≤ b ∧ b ≠ q9) → Zn W5.heap.size q9 nil8 b := fun b h => ⟨h.1, h.2, by simp [Value.ownBlock]⟩
      exact ⟨((tx_ne r1 hbk).kept hk hn).mono hz, ((mg_ne r2 HM0.out hbk).kept hk hn).mono hz, rk_nil _ _, rk_nil _ _, rk_nil _ _, rk_nil _ _, ((rk_ne r3 hbk).kept hk hn).mono hz, rk_nil _ _⟩
    have HMD : Hid (Y.heap[q9]? = some (.cells (mdlC ⟨V, C, D, hh, L, N⟩ (.slice to1 T.length tc) (.slice mo M.length mc) nil8 2 nil8 nil8 nil8 nil8 (.slice (some ⟨g, 0, none⟩) D D) nil8 (4 + (db : Int))) 48 (0, 0))) := hY
    have HQ9 : Hid (w.heap.size + 1 < q9 ∧ q7 < q9 ∧ q8 < q9 ∧ W5.heap.size ≤ q9 ∧ q8 < W5.heap.size) := by
      have h8 := HSA.out.n8
      have hq := HQ.out
      show _ ∧ _
      omega
    have HSY := show Hid _ from hSY
    clear hk hX hSY hbk r1 r2 r3 hY hXs HSA hq9
    clear hdb wdb hq4 HGA HDB HSV
    have hsv := HSVE.out
    have hmd := HMD.out
    unfold mdlC at hmd
    have HMDY : Hid (Y.heap[q9]? = _) := hmd
    clear HSVE HS6 HMD HM0
    subst hsv
    unfold mdlC
    have HSS : Hid (∀ Z, Kept (fun b => b = q9) Y Z → Sa w Z #[zV (V : Int), zV (C : Int), zV (D : Int), zV hh, zV (L : Int), zV (N : Int)] #[zV (A1 : Int), zV (A2 : Int), zV (D : Int), zV (A3 : Int), zV (A4 : Int)] q7 q8 st0) := fun Z hZ => HSY.out.kept hZ (fun b e => by
      have e' : b = q9 := e
      have := HQ9.out
      omega)
    have HS2 : Hid (∀ Z, Kept (fun b => b = q9) Y Z → (Z.cell? ⟨w.heap.size, 0, none⟩ = some (zV (V : Int)) ∧ Z.cell? ⟨w.heap.size, 1, none⟩ = some (zV (C : Int)) ∧ Z.cell? ⟨w.heap.size, 2, none⟩ = some (zV (D : Int)) ∧ Z.cell? ⟨w.heap.size, 3, none⟩ = some (zV hh) ∧ Z.cell? ⟨w.heap.size, 4, none⟩ = some (zV (L : Int)) ∧ Z.cell? ⟨w.heap.size, 5, none⟩ = some (zV (N : Int))) ∧ Kept (fun b => b = q9) Y Z) := fun Z hZ => by
      have h := (HSS.out Z hZ).bx
      exact ⟨⟨by rw [Lib.cell_of_heap h]; rfl, by rw [Lib.cell_of_heap h]; rfl, by rw [Lib.cell_of_heap h]; rfl, by rw [Lib.cell_of_heap h]; rfl, by rw [Lib.cell_of_heap h]; rfl, by rw [Lib.cell_of_heap h]; rfl⟩, hZ⟩
    have hSd := HS2.out Y.drew (Kept.refl (fun b => b = q9) Y).drew
    obtain ⟨⟨t0, t1, t2, t3, t4, t5⟩, _⟩ := HS2.out Y (Kept.refl _ _)
    have HTB2 : Hid (∀ Z, Kept (fun b => b = q9) Y Z → _) := fun Z hZ => HTB.out Z (HSS.out Z hZ).fr
    go_upto_region 6 with fail
    have hmdd : Y.drew.heap[q9]? = _ := hmd
    go_region_held3 (fun Z => (Z.cell? ⟨w.heap.size, 0, none⟩ = some (zV (V : Int)) ∧ Z.cell? ⟨w.heap.size, 1, none⟩ = some (zV (C : Int)) ∧ Z.cell? ⟨w.heap.size, 2, none⟩ = some (zV (D : Int)) ∧ Z.cell? ⟨w.heap.size, 3, none⟩ = some (zV hh) ∧ Z.cell? ⟨w.heap.size, 4, none⟩ = some (zV (L : Int)) ∧ Z.cell? ⟨w.heap.size, 5, none⟩ = some (zV (N : Int))) ∧ Kept (fun b => b = q9) Y Z) (first | exact hSd | exact hS' | (have hSy : _ ∧ Kept (fun b => b = q9) Y _ := (by assumption); exact HS2.out _ (hSy.2.setCell (p := ⟨q9, _, none⟩) (fun _ => rfl) _)) | assumption) (first | (go_at_call 23; have hSx : _ ∧ Kept (fun b => b = q9) Y _ := (by assumption); (with_reducible refine (HHF.out _).mono ?_); rintro r15 X15 ⟨rfl, hf15⟩; have hmd15 := hf15.at hmdd (fun e => e); have hS' := HS2.out X15 (hSx.2.trans (hf15.mono (S' := fun b => b = q9) (fun _ _ e => e.elim)) (fun _ _ e => e))) | (go_at_call 47; have hSx : _ ∧ Kept (fun b => b = q9) Y _ := (by assumption); (with_reducible refine (HTB2.out _ hSx.2).mono ?_); rintro r16 X16 ⟨cu, su, rfl, hcu, hsu, hf16⟩; obtain ⟨co, cc, rfl, _⟩ := hcu.shape; obtain ⟨so, sc, rfl, _⟩ := hsu.shape; have hmd16 := hf16.at hmd15 (fun e => e); have hk16 := hSx.2.trans (hf16.mono (S' := fun b => b = q9) (fun _ _ e => e.elim)) (fun _ _ e => e); have hX15s := hSx.2.size; have hS' := HS2.out X16 hk16; have z1 : X16.cell? ⟨q9, 10, none⟩ = some nil8 := (by rw [Lib.cell_of_heap hmd16]; rfl); have z2 : X16.cell? ⟨q9, 11, none⟩ = some nil8 := (by rw [Lib.cell_of_heap hmd16]; rfl); have zf : ∀ q, X16.frozen? ⟨q9, q, none⟩ = false := fun q => Lib.frozen_of_heap hmd16 q))
    have hk6 : Kept (fun b => b = q9) X16 ((X16.setCell ⟨q9, 10, none⟩ (.slice co cL.length cc)).setCell ⟨q9, 11, none⟩ (.slice so sL.length sc)) := ((Kept.refl (fun b => b = q9) X16).setCell (p := ⟨q9, 10, none⟩) (fun _ => rfl) _).setCell (p := ⟨q9, 11, none⟩) (fun _ => rfl) _
    have hmd6 := mdl_set2 (s := ⟨V, C, D, hh, L, N⟩) (es := 2) (ls := 4 + (db : Int)) (hmd16) (.slice co cL.length cc) (.slice so sL.length sc)
    generalize ((X16.setCell ⟨q9, 10, none⟩ (.slice co cL.length cc)).setCell ⟨q9, 11, none⟩ (.slice so sL.length sc)) = W6 at *
    have hz6 : ∀ b, (X15.heap.size ≤ b ∧ b < X16.heap.size) → Zn W5.heap.size q9 nil8 b := fun b h => by
      have := lt_of_heap HMDY.out
      have := HQ9.out
      exact ⟨by omega, by omega, by simp [Value.ownBlock]⟩
    have hkY6 := hk16.trans hk6 (fun _ _ e => e)
    have hr6 := HR1.out.kept hkY6 (fun _ z e => z.2.1 e)
    have HL6 : Hid (SaL w W6 #[zV (V : Int), zV (C : Int), zV (D : Int), zV hh, zV (L : Int), zV (N : Int)] #[zV (A1 : Int), zV (A2 : Int), zV (D : Int), zV (A3 : Int), zV (A4 : Int)] q7 q8 q9 W5.heap.size ⟨⟨V, C, D, hh, L, N⟩, T, M, [], 2, cL, sL, [], [], mkL D (fun _ => 64), [], 4 + (db : Int)⟩ (.slice to1 T.length tc) (.slice mo M.length mc) nil8 (.slice co cL.length cc) (.slice so sL.length sc) nil8 (.slice (some ⟨g, 0, none⟩) D D) nil8 st0 (fun i => blF (SF i) A3 A4 D N) 0 nil8) :=
      SaL.zero (HSS.out W6 hkY6) hmd6 ⟨hr6.tx, hr6.mg, hr6.e, (hcu.kept hk6 (fun b hb e => (hz6 b hb).2.1 e)).mono hz6, (hsu.kept hk6 (fun b hb e => (hz6 b hb).2.1 e)).mono hz6, hr6.be, hr6.g, hr6.u⟩
    clear hk6 hmd6 hz6 hkY6 hr6 hcu hsu hk16 hX15s hmd16 hmd15 hf15 hf16 z1 z2 zf hSd hmdd hmd HSS HS2 HTB2 HTB HHF HR1 HMDY HSY t0 t1 t2 t3 t4 t5
    obtain ⟨lo, hlo⟩ : ∃ lo, W5.heap.size = lo := ⟨_, rfl⟩
    rw [hlo] at HL6 HQ9
    clear hlo
    go_wp2_with fail
    refine Calls.mono (HBT.out W6 HL6.out.sa.fr) ?_
    rintro e X7 ⟨bu, rfl, hbu, hf⟩
    obtain ⟨beo, bec, rfl, _⟩ := hbu.shape
    have hL7 := HL6.out.next hf
    have HW6 : Hid (lo ≤ W6.heap.size ∧ q9 < W6.heap.size) := by
      have h1 := lt_of_heap HL6.out.md
      have h2 := HQ9.out
      show _ ∧ _
      omega
    have z13 : X7.cell? ⟨q9, 13, none⟩ = some nil8 := by rw [Lib.cell_of_heap hL7.md]; rfl
    have zf : ∀ q, X7.frozen? ⟨q9, q, none⟩ = false := fun q => Lib.frozen_of_heap hL7.md q
    have HL7 := show Hid _ from hL7
    have HBU : Hid (Rk .i8 (fun b => W6.heap.size ≤ b ∧ b < X7.heap.size) X7 (.slice beo bL.length bec) bL) := hbu
    clear hL7 hbu hf HL6 HBT
    go_upto_region 8 with fail
    have hk7 : Kept (fun b => b = q9) X7 (X7.setCell ⟨q9, 13, none⟩ (.slice beo bL.length bec)) := (Kept.refl (fun b => b = q9) X7).setCell (p := ⟨q9, 13, none⟩) (fun _ => rfl) _
    have hz7 : ∀ b, (W6.heap.size ≤ b ∧ b < X7.heap.size) → Zn lo q9 nil8 b := fun b h => by
      have := HW6.out
      exact ⟨by omega, by omega, by simp [Value.ownBlock]⟩
    have hr7 := HL7.out.rk9 hk7
    have hL8 := HL7.out.sets (by have := HQ9.out; omega) hk7 (m' := ⟨⟨V, C, D, hh, L, N⟩, T, M, [], 2, cL, sL, [], bL, mkL D (fun _ => 64), [], 4 + (db : Int)⟩) (mdl_setB HL7.out.md (.slice beo bL.length bec)) ⟨hr7.tx, hr7.mg, hr7.e, hr7.c, hr7.s, (HBU.out.kept hk7 (fun b hb e => (hz7 b hb).2.1 e)).mono hz7, hr7.g, hr7.u⟩
    have HL8 := show Hid _ from hL8
    clear hk7 hz7 hr7 hL8 HL7 HBU z13 zf HW6
    generalize X7.setCell ⟨q9, 13, none⟩ (.slice beo bL.length bec) = W8 at *
    have s0 : W8.cell? ⟨q7, 0, none⟩ = some (zV (A1 : Int)) := by rw [Lib.cell_of_heap HL8.out.sa.sz]; rfl
    go_wp2_with fail
    refine Calls.mono (HNU.out q8 st0 W8 HL8.out.sa.gn HST0.out) ?_
    rintro e X9 ⟨qe, rfl, hre, hqe, hk, hg⟩
    have hL9 := HL8.out.gen (by have := HQ9.out; omega) hk hg
    have HW8 : Hid (lo ≤ qe ∧ q9 < qe) := by
      have h1 := lt_of_heap HL8.out.md
      have h2 := HQ9.out
      show _ ∧ _
      omega
    have z8 : X9.cell? ⟨q9, 8, none⟩ = some nil8 := by rw [Lib.cell_of_heap hL9.md]; rfl
    have zf : ∀ q, X9.frozen? ⟨q9, q, none⟩ = false := fun q => Lib.frozen_of_heap hL9.md q
    have HL9 := show Hid _ from hL9
    have HRE : Hid (Rk .i8 (fun b => b = qe) X9 (.slice (some ⟨qe, 0, none⟩) A1 A1) (gL st0 A1)) := hre
    clear hL9 hre hqe hk hg HL8 s0
    go_upto_region 9 with fail
    have hk9 : Kept (fun b => b = q9) X9 (X9.setCell ⟨q9, 8, none⟩ (.slice (some ⟨qe, 0, none⟩) A1 A1)) := (Kept.refl (fun b => b = q9) X9).setCell (p := ⟨q9, 8, none⟩) (fun _ => rfl) _
    have hz9 : ∀ b, b = qe → Zn lo q9 nil8 b := fun b h => by
      have := HW8.out
      exact ⟨by omega, by omega, by simp [Value.ownBlock]⟩
    have hr9 := HL9.out.rk9 hk9
    have hL10 := HL9.out.sets (by have := HQ9.out; omega) hk9 (m' := ⟨⟨V, C, D, hh, L, N⟩, T, M, gL st0 A1, 2, cL, sL, [], bL, mkL D (fun _ => 64), [], 4 + (db : Int)⟩) (mdl_setE HL9.out.md (.slice (some ⟨qe, 0, none⟩) A1 A1)) ⟨hr9.tx, hr9.mg, (HRE.out.kept hk9 (fun b hb e => (hz9 b hb).2.1 e)).mono hz9, hr9.c, hr9.s, hr9.be, hr9.g, hr9.u⟩
    have HL10 := show Hid _ from hL10
    clear hk9 hz9 hr9 hL10 HL9 HRE z8 zf HW8
    generalize X9.setCell ⟨q9, 8, none⟩ (.slice (some ⟨qe, 0, none⟩) A1 A1) = W10 at *
    have s4 : W10.cell? ⟨w.heap.size, 4, none⟩ = some (zV (L : Int)) := by rw [Lib.cell_of_heap HL10.out.sa.bx]; rfl
    rw [HS0.out] at HL10
    clear HS0 HST0
    go_wp2
    clear s4
    go_loopw [54] (fun iv wr => ∃ (j : Nat) (bo : Option Addr) (bc : Nat), j ≤ L ∧ iv = zV j ∧ Hid (SaL w wr #[zV (V : Int), zV (C : Int), zV (D : Int), zV hh, zV (L : Int), zV (N : Int)] #[zV (A1 : Int), zV (A2 : Int), zV (D : Int), zV (A3 : Int), zV (A4 : Int)] q7 q8 q9 lo ⟨⟨V, C, D, hh, L, N⟩, T, M, gL st0 A1, 2, cL, sL, [], bL, mkL D (fun _ => 64), [], 4 + (db : Int)⟩ (.slice to1 T.length tc) (.slice mo M.length mc) (.slice (some ⟨qe, 0, none⟩) A1 A1) (.slice co cL.length cc) (.slice so sL.length sc) (.slice beo bL.length bec) (.slice (some ⟨g, 0, none⟩) D D) nil8 (SF j) (fun i => blF (SF i) A3 A4 D N) j (.slice bo j bc))) (fun iv _ => L - (RowKit.intOf iv).toNat)
    case atStart => exact ⟨0, none, 0, Nat.zero_le _, rfl, HL10.out⟩
    case round =>
      obtain ⟨j, bo, bc, hj, rfl, HA⟩ := hrel
      clear HL10
      by_cases hlt : j < L
      · have hlt' : (j : Int) < (L : Int) := by omega
        have hkd : Kept (fun _ => False) wr wr.drew := (Kept.refl _ wr).drew
        have hLd := HA.out.next hkd
        have hgd : GnAt wr.drew q8 (SF j) := hLd.sa.gn
        have HLD := show Hid _ from hLd
        have HS2 : Hid (∀ Z, Kept (fun b => b = q8 ∨ b = q9 ∨ (Value.slice bo j bc).ownBlock = some b) wr Z → Z.cell? ⟨q9, 12, none⟩ = some (.slice bo j bc) → ((Z.cell? ⟨w.heap.size, 0, none⟩ = some (zV (V : Int)) ∧ Z.cell? ⟨w.heap.size, 1, none⟩ = some (zV (C : Int)) ∧ Z.cell? ⟨w.heap.size, 2, none⟩ = some (zV (D : Int)) ∧ Z.cell? ⟨w.heap.size, 3, none⟩ = some (zV hh) ∧ Z.cell? ⟨w.heap.size, 4, none⟩ = some (zV (L : Int)) ∧ Z.cell? ⟨w.heap.size, 5, none⟩ = some (zV (N : Int))) ∧ Z.cell? ⟨q9, 12, none⟩ = some (.slice bo j bc) ∧ (Z.cell? ⟨q7, 0, none⟩ = some (zV (A1 : Int)) ∧ Z.cell? ⟨q7, 1, none⟩ = some (zV (A2 : Int)) ∧ Z.cell? ⟨q7, 2, none⟩ = some (zV (D : Int)) ∧ Z.cell? ⟨q7, 3, none⟩ = some (zV (A3 : Int)) ∧ Z.cell? ⟨q7, 4, none⟩ = some (zV (A4 : Int)))) ∧ Kept (fun b => b = q8 ∨ b = q9 ∨ (Value.slice bo j bc).ownBlock = some b) wr Z) := fun Z hZ hl12 => by
          obtain ⟨Cs, _, c2, _⟩ := HA.out.own
          have o1 := (own_blk c2).1
          have h9 := HQ9.out
          have h7 := HA.out.sa.n7
          have h8 := HA.out.sa.n8
          have hne := HA.out.sa.ne
          have hq := HQ.out
          have hb := hZ.at HA.out.sa.bx (fun e => by
            rcases e with e | e | e
            · omega
            · omega
            · have := o1 _ e; omega)
          have hz := hZ.at HA.out.sa.sz (fun e => by
            rcases e with e | e | e
            · omega
            · omega
            · have := o1 _ e; omega)
          exact ⟨⟨⟨by rw [Lib.cell_of_heap hb]; rfl, by rw [Lib.cell_of_heap hb]; rfl, by rw [Lib.cell_of_heap hb]; rfl, by rw [Lib.cell_of_heap hb]; rfl, by rw [Lib.cell_of_heap hb]; rfl, by rw [Lib.cell_of_heap hb]; rfl⟩, hl12, by rw [Lib.cell_of_heap hz]; rfl, by rw [Lib.cell_of_heap hz]; rfl, by rw [Lib.cell_of_heap hz]; rfl, by rw [Lib.cell_of_heap hz]; rfl, by rw [Lib.cell_of_heap hz]; rfl⟩, hZ⟩
        have l0 : wr.drew.cell? ⟨q9, 12, none⟩ = some (.slice bo j bc) := by rw [Lib.cell_of_heap HLD.out.md]; rfl
        have hSd := HS2.out wr.drew (Kept.refl (fun b => b = q8 ∨ b = q9 ∨ (Value.slice bo j bc).ownBlock = some b) wr).drew l0
        have HB : Hid (Calls Tryd.prog 50 #[.pointer (some ⟨q8, 0, none⟩), .agg #[zV (V : Int), zV (C : Int), zV (D : Int), zV hh, zV (L : Int), zV (N : Int)], .agg #[zV (A1 : Int), zV (A2 : Int), zV (D : Int), zV (A3 : Int), zV (A4 : Int)]] wr.drew fun e w' => ∃ K, e = .returned (.agg K) ∧ BkC (fun b => wr.drew.heap.size ≤ b) w' K (blF (SF j) A3 A4 D N) ∧ Kept (fun b => b = q8) wr.drew w' ∧ GnAt w' q8 (SF (j + 1))) := by
          have h := HBK.out A1 A2 q8 (SF j) wr.drew hgd (HST.out j)
          rw [← HSN.out j] at h
          exact h
        have HLO : Hid (w.heap.size + 1 < lo ∧ q7 < lo ∧ q8 < lo ∧ lo ≤ q9) := by
          have h9 := HQ9.out
          have h7 := HA.out.sa.n7
          have hq := HQ.out
          show _ ∧ _
          omega
        clear hgd hLd hkd HBK HNU
        go_upto_region 11 with fail
        refine wp_region_cut 7 (by kernel_rfl) (by simp) (by kernel_rfl) ?_
        simp only [List.take_succ_cons, List.take_zero]
        refine wpAny_of_held (S := fun Z => ((Z.cell? ⟨w.heap.size, 0, none⟩ = some (zV (V : Int)) ∧ Z.cell? ⟨w.heap.size, 1, none⟩ = some (zV (C : Int)) ∧ Z.cell? ⟨w.heap.size, 2, none⟩ = some (zV (D : Int)) ∧ Z.cell? ⟨w.heap.size, 3, none⟩ = some (zV hh) ∧ Z.cell? ⟨w.heap.size, 4, none⟩ = some (zV (L : Int)) ∧ Z.cell? ⟨w.heap.size, 5, none⟩ = some (zV (N : Int))) ∧ Z.cell? ⟨q9, 12, none⟩ = some (.slice bo j bc) ∧ (Z.cell? ⟨q7, 0, none⟩ = some (zV (A1 : Int)) ∧ Z.cell? ⟨q7, 1, none⟩ = some (zV (A2 : Int)) ∧ Z.cell? ⟨q7, 2, none⟩ = some (zV (D : Int)) ∧ Z.cell? ⟨q7, 3, none⟩ = some (zV (A3 : Int)) ∧ Z.cell? ⟨q7, 4, none⟩ = some (zV (A4 : Int)))) ∧ Kept (fun b => b = q8 ∨ b = q9 ∨ (Value.slice bo j bc).ownBlock = some b) wr Z) _ _ _ _ ?_
        refine wpAnyH_take (i := 0) (v := ?_) rfl (by kernel_rfl) (by kernel_rfl) (by kernel_rfl) (fun _ _ _ h => h) (Or.inl ⟨by rfl, ?_⟩) hSd ?_
        rotate_left
        · intro w hSw
          try dsimp only at hSw
          go_simp
          with_reducible rfl
        simp only [Act.put]
        refine wpAnyH_take (i := 1) (v := ?_) rfl (by kernel_rfl) (by kernel_rfl) (by kernel_rfl) (fun _ _ _ h => h) (Or.inl ⟨by rfl, ?_⟩) hSd ?_
        rotate_left
        · intro w hSw
          try dsimp only at hSw
          go_simp
          with_reducible rfl
        simp only [Act.put]
        refine wpAnyH_take (i := 2) (v := ?_) rfl (by kernel_rfl) (by kernel_rfl) (by kernel_rfl) (fun _ _ _ h => h) (Or.inl ⟨by rfl, ?_⟩) hSd ?_
        rotate_left
        · intro w hSw
          try dsimp only at hSw
          go_simp
          with_reducible rfl
        simp only [Act.put]
        refine wpAnyH_take (i := 3) (v := ?_) rfl (by kernel_rfl) (by kernel_rfl) (by kernel_rfl) (fun _ _ _ h => h) (Or.inl ⟨by rfl, ?_⟩) hSd ?_
        rotate_left
        · intro w hSw
          try dsimp only at hSw
          go_simp
          with_reducible rfl
        simp only [Act.put]
        refine wpAnyH_ready (rs := [4]) (by kernel_rfl) (by simp) ?_
        refine AllReadyH.cons rfl (fun K hK => ?_) AllReadyH.nil
        go_simp
        refine Calls.mono HB.out ?_
        rintro r15 X15 ⟨K0, rfl, hbk, hk15, hg15⟩
        have hq98 : q8 < q9 := HQ9.out.2.2.1
        have h9lt : q9 < wr.drew.heap.size := lt_of_heap HLD.out.md
        have hk15' := hSd.2.trans (hk15.mono (S' := fun b => b = q8 ∨ b = q9 ∨ (Value.slice bo j bc).ownBlock = some b) (fun _ _ e => .inl e)) (fun _ _ e => e)
        have l15 : X15.cell? ⟨q9, 12, none⟩ = some (.slice bo j bc) := (hk15.cell (p := ⟨q9, 12, none⟩) h9lt (fun e => by have e' : q9 = q8 := e; omega)).trans l0
        have hS15 := HS2.out X15 hk15' l15
        have hj8 : j ≤ 100 := by omega
        obtain ⟨lv', Z, hrun, ⟨lo', lc', rfl⟩, hz12, hzf, hkZ, hLn⟩ := HLD.out.step HLO.out hk15 hg15 hbk hj8
        have hK0 := hbk.size
        have hSz := hk15.size
        have HLn := show Hid _ from hLn
        have hSd2 := hSd.2
        clear hLn hbk hk15 hg15 hSd
        refine hK.out _ _ hS15 (fun hHeld => ?_)
        clear hK K
        refine wpAnyH_ready (rs := [5]) (by kernel_rfl) (by simp) ?_
        refine AllReadyH.cons rfl (fun K hK => ?_) AllReadyH.nil
        go_simp
        rw [fold17 hK0]
        have hka : Kept (fun b => b = q8 ∨ b = q9 ∨ (Value.slice bo j bc).ownBlock = some b) X15 (X15.alloc (.cells K0 72)) := (Kept.refl _ X15).alloc _
        have hSa := HS2.out (X15.alloc (.cells K0 72)) (hk15'.trans hka (fun _ _ e => e)) ((((Kept.refl (fun _ => False) X15).alloc _).cell (p := ⟨q9, 12, none⟩) (Nat.lt_of_lt_of_le h9lt hSz) (fun e => e)).trans l15)
        refine hK.out _ _ hSa (fun hHeld => ?_)
        clear hK K
        refine wpAnyH_ready (rs := [6]) (by kernel_rfl) (by simp) ?_
        refine AllReadyH.cons rfl (fun K hK => ?_) AllReadyH.nil
        refine step_append_run rfl _ _ _ _ rfl _ _ (by rfl) (by rfl) _ _ hrun ?_
        have hSZ := HS2.out Z (hSd2.trans (hkZ.mono (S' := fun b => b = q8 ∨ b = q9 ∨ (Value.slice bo j bc).ownBlock = some b) (fun _ _ e => e.elim .inl (fun e => .inr (.inr e)))) (fun _ _ e => e)) hz12
        refine hK.out _ _ hSZ (fun hHeld => ?_)
        clear hK K
        refine wpAnyH_done (by kernel_rfl) ?_ _
        clear hHeld hSZ hSa hka hS15 hk15' l15 l0 hrun hSz hK0 hkZ hSd2
        show wpTail _ _ _ _ _ _
        simp only [List.drop_succ_cons, List.drop_zero]
        unfold wpTail
        rw [if_pos (show Region.wanted _ _ = true from rfl)]
        go_simp
        unfold wpTail
        rw [if_pos (show Region.wanted _ _ = true from rfl)]
        go_simp
        refine tail_nil ?_
        clear hz12 hzf HLD HB HS2
        go_wp2
        go_roundw
        case rel => exact ⟨j + 1, lo', lc', hlt, by go_num, HLn.out⟩
        case measure => simp [RowKit.intOf]; omega
      · obtain rfl : j = L := by omega
        have hlt' : ¬ ((j : Int) < (j : Int)) := by omega
        have s0 : wr.cell? ⟨q7, 0, none⟩ = some (zV (A1 : Int)) := by rw [Lib.cell_of_heap HA.out.sa.sz]; rfl
        go_wp2_with fail
        refine Calls.mono (HNU.out q8 (SF j) wr HA.out.sa.gn (HST.out j)) ?_
        rintro e XU ⟨qu, rfl, hru, hqu, hk, hg⟩
        have hLU := HA.out.gen (by have := HQ9.out; omega) hk hg
        have z15 : XU.cell? ⟨q9, 15, none⟩ = some nil8 := by rw [Lib.cell_of_heap hLU.md]; rfl
        have zf : ∀ q, XU.frozen? ⟨q9, q, none⟩ = false := fun q => Lib.frozen_of_heap hLU.md q
        have HLU := show Hid _ from hLU
        have HRU : Hid (Rk .i8 (fun b => b = qu) XU (.slice (some ⟨qu, 0, none⟩) A1 A1) (gL (SF j) A1)) := hru
        have HQU : Hid (Zn lo q9 (.slice bo j bc) qu) := by
          have h9 := HQ9.out
          have h1 := lt_of_heap HA.out.md
          obtain ⟨Cs, _, c2, _⟩ := HA.out.own
          exact ⟨by omega, by omega, fun e => by have := ((own_blk c2).1 qu e).2; omega⟩
        clear hLU hru hqu hk hg HA s0 HNU HBK HST HSN
        go_upto_region 14 with fail
        have hk14 : Kept (fun b => b = q9) XU (XU.setCell ⟨q9, 15, none⟩ (.slice (some ⟨qu, 0, none⟩) A1 A1)) := (Kept.refl (fun b => b = q9) XU).setCell (p := ⟨q9, 15, none⟩) (fun _ => rfl) _
        have hr14 := HLU.out.rk9 hk14
        have hz14 : ∀ b, b = qu → Zn lo q9 (.slice bo j bc) b := fun b e => e ▸ HQU.out
        have hLW := HLU.out.sets (by have := HQ9.out; omega) hk14 (m' := ⟨⟨V, C, D, hh, j, N⟩, T, M, gL st0 A1, 2, cL, sL, [], bL, mkL D (fun _ => 64), gL (SF j) A1, 4 + (db : Int)⟩) (mdl_setU HLU.out.md (.slice (some ⟨qu, 0, none⟩) A1 A1)) ⟨hr14.tx, hr14.mg, hr14.e, hr14.c, hr14.s, hr14.be, hr14.g, (HRU.out.kept hk14 (fun b hb e => (hz14 b hb).2.1 e)).mono hz14⟩
        have HLW := show Hid _ from hLW
        clear hk14 hr14 hz14 hLW HLU HRU HQU z15 zf
        generalize XU.setCell ⟨q9, 15, none⟩ (.slice (some ⟨qu, 0, none⟩) A1 A1) = W14 at *
        refine wp_region_list ?_
        refine wpList_load_row rfl 48 _ rfl q9 rfl 48 _ _ _ HLW.out.md Tryd.underlying48 rfl mdlSize ?_
        refine list_store rfl 48 _ _ rfl (w.heap.size + 1) _ _ 48 rfl rfl HLW.out.sa.rs rfl mdlSize (by simp [Value.oneCell', mdlC]) ?_
        intro V2 hV2 hkV
        obtain ⟨hMd, hFr⟩ := HLW.out.done (by have h9 := HQ9.out; have h7 := HLW.out.sa.n7; have hq := HQ.out; omega) hl1.2 hkV HOK.out (by show I64 2; unfold I64; omega) (by have := HD4.out; show I64 (4 + (db : Int)); unfold I64; omega)
        have HMD2 := show Hid _ from hMd
        have HFR := show Hid _ from hFr
        clear hMd hFr hkV HLW
        go_wp2
        refine ret_ct rfl (w.heap.size + 1) _ _ _ _ rfl hV2 rfl rfl mdlSize rfl ?_
        exact ⟨_, _, _, _, _, _, _, _, _, rfl, HMD2.out, HFR.out⟩
end Go.Proofs.YtakiimjldccgcabDoor

/-
  Which part of a model is wrong: the walk.
-/
namespace Go.Proofs.YtakiimjldccgcabDoor
open Go.RowKit Go.Lib Go.Maps

theorem wp_no {α : Type} {R : α} {x : Int} {a r : α} (h : R = if x ≠ 0 then a else r) (hx : x = 0) : R = r := h.trans (if_neg (fun e => e hx))
theorem wp_yes {α : Type} {R : α} {x : Int} {a r : α} (h : R = if x ≠ 0 then a else r) (hx : x ≠ 0) : R = a := h.trans (if_pos hx)
theorem wp_no2 {α : Type} {R : α} {x y : Int} {a r : α} (h : R = if x ≠ y then a else r) (hx : x = y) : R = r := h.trans (if_neg (fun e => e hx))
theorem wp_yes2 {α : Type} {R : α} {x y : Int} {a r : α} (h : R = if x ≠ y then a else r) (hx : x ≠ y) : R = a := h.trans (if_pos hx)
set_option maxHeartbeats 4000000 in
set_option maxRecDepth 100000 in
theorem wrongPart_any {p : Nat → Prop} (m : Md) (tv mv ev cv sv bv bev gv uv : Value) (w : World) (hm : MdC p w m tv mv ev cv sv bv bev gv uv) :
    Calls Tryd.prog 39 #[.agg (mdlC m.s tv mv ev m.es cv sv bv bev gv uv m.ls)] w fun e w' => e = .returned (.tuple #[.agg #[zV (wpF m).1, zV (wpF m).2.1], zV (wpF m).2.2]) ∧ Fresh w w' := by
  have HWV : Hid (∀ X, Fresh w X → Calls Tryd.prog 58 #[.agg (mdlC m.s tv mv ev m.es cv sv bv bev gv uv m.ls)] X fun e w' => e = .returned (.tuple #[.agg #[zV (wvP m.s.v m.T m.M), zV (wvN m.s.v m.T m.M)], zV (wvE m.s.v m.T m.M)]) ∧ Fresh X w') := fun X hX => wrongVocab_any m.s tv mv ev m.es cv sv bv bev gv uv m.ls m.T m.M X (hm.tx.fresh hX) (hm.mg.fresh hX)
  have HCK : Hid (∀ X, Calls Tryd.prog 11 #[.agg #[zV m.s.v, zV m.s.c, zV m.s.d, zV m.s.h, zV m.s.l, zV m.s.n]] X fun e w' => e = .returned (zV (shE m.s)) ∧ Fresh X w') := fun X => (Check_any m.s X).mono fun e w' ⟨h1, h2⟩ => ⟨h1, by rw [h2]; exact (Kept.refl _ X).alloc _⟩
  have HSZ : Hid (shE m.s = 0 → ∃ V C D L N P, Rsh m.s V C D L N P ∧ ∀ X, Calls Tryd.prog 25 #[.agg #[zV m.s.v, zV m.s.c, zV m.s.d, zV m.s.h, zV m.s.l, zV m.s.n]] X fun e w' => e = .returned (.agg #[zV ((V * D : Nat) : Int), zV ((C * P : Nat) : Int), zV (D : Int), zV ((D * D : Nat) : Int), zV ((N * D : Nat) : Int)]) ∧ Fresh X w') := fun h => by
    obtain ⟨V, C, D, L, N, P, hs⟩ := rsh_of (shE_zero h)
    exact ⟨V, C, D, L, N, P, hs, fun X => sizesOf_any m.s V C D L N P X hs⟩
  have HWB : Hid (∀ X, Fresh w X → ∀ (l a1 a2 : Int) (A B D : Nat), Calls Tryd.prog 61 #[bv, zV l, .agg #[zV a1, zV a2, zV (D : Int), zV (A : Int), zV (B : Int)]] X fun e w' => e = .returned (.tuple #[zV (wbG l A B D 0 m.L).1, zV (wbG l A B D 0 m.L).2]) ∧ Fresh X w') := fun X hX l a1 a2 A B D => wrongBlock_any m.L bv l a1 a2 A B D X (hm.b.fresh hX)
  have HWW : Hid (∀ (ao : Option Addr) (n c : Nat) (size shift most : Int) (X : World), Calls Tryd.prog 59 #[.slice ao n c, zV size, zV shift, zV most] X fun e w' => e = .returned (zV (wwE n size shift most)) ∧ Fresh X w') := wrongWords_any
  have HFI : Hid (∀ (ao : Option Addr) (n c : Nat) (sz : Int) (X : World), _) := fun ao n c sz X => fit1_any ao n c sz X
  have HW0 := show Hid _ from Wp.start w (mdlC m.s tv mv ev m.es cv sv bv bev gv uv m.ls)
  obtain ⟨R, HR⟩ : ∃ R, wpF m = R := ⟨_, rfl⟩
  rw [HR]
  replace HR := HR.symm
  unfold wpF at HR
  obtain ⟨eo, ec, rfl, _⟩ := hm.e.shape
  obtain ⟨co, cc, rfl, _⟩ := hm.c.shape
  obtain ⟨so, sc, rfl, _⟩ := hm.s.shape
  obtain ⟨beo, bec, rfl, _⟩ := hm.be.shape
  obtain ⟨go, gc, rfl, _⟩ := hm.g.shape
  obtain ⟨uo, uc, rfl, _⟩ := hm.u.shape
  obtain ⟨bo, bc, rfl⟩ := hm.b.shape
  clear hm
  obtain ⟨s, T, M, E, es, C, S, L, B, G, U, ls⟩ := m
  simp only at *
  generalize wvE s.v T M = vE at *
  generalize wvP s.v T M = vP at *
  generalize wvN s.v T M = vN at *
  generalize E.length = en at *
  generalize C.length = cn at *
  generalize S.length = sn at *
  generalize B.length = bn at *
  generalize G.length = gn at *
  generalize U.length = un at *
  generalize L.length = ln at *
  obtain ⟨cs, hcs⟩ : ∃ cs, mdlC s tv mv (.slice eo en ec) es (.slice co cn cc) (.slice so sn sc) (.slice bo ln bc) (.slice beo bn bec) (.slice go gn gc) (.slice uo un uc) ls = cs := ⟨_, rfl⟩
  have k4 : cs[4]? = some (zV s.l) := by rw [← hcs]; rfl
  have k8 : cs[8]? = some (.slice eo en ec) := by rw [← hcs]; rfl
  have k9 : cs[9]? = some (zV es) := by rw [← hcs]; rfl
  have k10 : cs[10]? = some (.slice co cn cc) := by rw [← hcs]; rfl
  have k11 : cs[11]? = some (.slice so sn sc) := by rw [← hcs]; rfl
  have k12 : cs[12]? = some (.slice bo ln bc) := by rw [← hcs]; rfl
  have k13 : cs[13]? = some (.slice beo bn bec) := by rw [← hcs]; rfl
  have k14 : cs[14]? = some (.slice go gn gc) := by rw [← hcs]; rfl
  have k15 : cs[15]? = some (.slice uo un uc) := by rw [← hcs]; rfl
  have k16 : cs[16]? = some (zV ls) := by rw [← hcs]; rfl
  obtain ⟨SV, hSV⟩ : ∃ SV, (#[zV s.v, zV s.c, zV s.d, zV s.h, zV s.l, zV s.n] : Array Value) = SV := ⟨_, rfl⟩
  have HK : Hid (cs.size = 17 ∧ SV.size = 6 ∧ ∀ j, j < 6 → cs[j]? = SV[j]?) := by
    rw [← hcs, ← hSV]
    exact ⟨rfl, rfl, fun j hj => by rcases (show j = 0 ∨ j = 1 ∨ j = 2 ∨ j = 3 ∨ j = 4 ∨ j = 5 by omega) with rfl | rfl | rfl | rfl | rfl | rfl <;> rfl⟩
  rw [hcs] at HWV HW0 ⊢
  rw [hSV] at HCK HSZ
  clear hcs hSV
  go_enter Tryd.func39, Tryd.ntmps39
  go_upto_region 1 with fail
  have HRH := show Hid (R = _) from HR
  clear HR
  generalize (w.alloc (.cells cs 48)).alloc (.cells #[zV 0, zV 0] 64) = W0 at *
  generalize shE s = sE at *
  go_wp2_with (refine wpList_loadAt rfl 23 _ rfl w.heap.size 0 rfl SV (HW0.out.shp HK.out.2.1 HK.out.2.2) ?_)
  refine Calls.mono (HCK.out _) ?_
  rintro e X ⟨rfl, hf⟩
  have HX : Hid (Wp w X cs) := HW0.out.next hf
  clear hf HCK
  by_cases hE : sE = 0
  case neg =>
    have hne : (sE != 0) = true := bne_iff_ne.2 hE
    have HRR : Hid (R = (1, 0, sE)) := wp_yes HRH.out hE
    clear hE HRH HSZ HWV HWB HWW HFI
    have z0 := HX.out.r0
    have z1 := HX.out.r1
    have zf := fun k => HX.out.fz k
    go_wp2
    refine ret_ct rfl (w.heap.size + 1) _ _ _ _ rfl (HX.out.ret _ _).1 rfl rfl whSize rfl ?_
    refine ⟨?_, (HX.out.ret _ _).2⟩
    rw [HRR.out]
    rfl
  have hne : (sE != 0) = false := by rw [hE]; rfl
  replace HRH := show Hid (R = _) from wp_no HRH.out hE
  obtain ⟨VN, CN, DN, LN, NN, PN, hs, hsz⟩ := HSZ.out hE
  have hsi := hs.sz
  clear hs
  generalize VN * DN = A1 at *
  generalize CN * PN = A2 at *
  generalize DN * DN = A3 at *
  generalize NN * DN = A4 at *
  obtain ⟨i1, i2, i3, i4, i5, i6, i7⟩ := hsi
  have HSZ2 := show Hid _ from hsz
  have hr := HRH.out
  rw [i1, i2, i3, i4, i5, i6, i7] at hr
  rw [i7] at k4
  replace HRH := show Hid (R = _) from hr
  clear hE HSZ hsz i1 i2 i3 i4 i5 i6 i7 hr
  go_upto_region 4 with fail
  go_wp2_with (refine wpList_loadAt rfl 48 _ rfl w.heap.size 0 rfl cs (HX.out.all HK.out.1) ?_)
  refine Calls.mono (HWV.out _ HX.out.fr) ?_
  rintro e X2 ⟨rfl, hf⟩
  have HX2 : Hid (Wp w X2 cs) := HX.out.next hf
  clear hf HWV HX hne
  go_upto_region 5 with fail
  have HX3 : Hid (Wp w (X2.alloc (.cells #[zV vP, zV vN] 64)) cs ∧ (X2.alloc (.cells #[zV vP, zV vN] 64)).heap[X2.heap.size]? = some (.cells #[zV vP, zV vN] 64 (0, 0))) := ⟨HX2.out.next ((Kept.refl _ X2).alloc _), heap_alloc_new X2 _⟩
  generalize hq2 : X2.heap.size = q2 at *
  generalize X2.alloc (.cells #[zV vP, zV vN] 64) = W3 at *
  clear hq2
  by_cases hE : vE = 0
  case neg =>
    have hne : (vE != 0) = true := bne_iff_ne.2 hE
    have HRR : Hid (R = (vP, vN, vE)) := wp_yes HRH.out hE
    have y0 : W3.cell? ⟨q2, 0, none⟩ = some (zV vP) := by rw [Lib.cell_of_heap HX3.out.2]; rfl
    have y1 : W3.cell? ⟨q2, 1, none⟩ = some (zV vN) := by rw [Lib.cell_of_heap HX3.out.2]; rfl
    clear hE HRH HSZ2 HWB HWW HFI
    have z0 := HX3.out.1.r0
    have z1 := HX3.out.1.r1
    have zf := fun k => HX3.out.1.fz k
    go_wp2
    refine ret_ct rfl (w.heap.size + 1) _ _ _ _ rfl (HX3.out.1.ret _ _).1 rfl rfl whSize rfl ?_
    refine ⟨?_, (HX3.out.1.ret _ _).2⟩
    rw [HRR.out]
    rfl
  have hne : (vE != 0) = false := by rw [hE]; rfl
  replace HRH := show Hid (R = _) from wp_no HRH.out hE
  clear hE
  go_upto_region 7 with fail
  go_wp2_with (refine wpList_loadAt rfl 23 _ rfl w.heap.size 0 rfl SV (HX3.out.1.shp HK.out.2.1 HK.out.2.2) ?_)
  refine Calls.mono (HSZ2.out _) ?_
  rintro e X4 ⟨rfl, hf⟩
  have HX4 : Hid (Wp w X4 cs) := HX3.out.1.next hf
  clear hf HSZ2 HX3 HX2 hne
  go_upto_region 8 with fail
  have hsb : (X4.alloc (.cells #[zV (A1 : Int), zV (A2 : Int), zV (DN : Int), zV (A3 : Int), zV (A4 : Int)] 81)).heap[X4.heap.size]? = some (.cells #[zV (A1 : Int), zV (A2 : Int), zV (DN : Int), zV (A3 : Int), zV (A4 : Int)] 81 (0, 0)) := heap_alloc_new X4 _
  have hW5 : Wp w (X4.alloc (.cells #[zV (A1 : Int), zV (A2 : Int), zV (DN : Int), zV (A3 : Int), zV (A4 : Int)] 81)) cs := HX4.out.next ((Kept.refl _ X4).alloc _)
  generalize hq3 : X4.heap.size = q3 at *
  generalize X4.alloc (.cells #[zV (A1 : Int), zV (A2 : Int), zV (DN : Int), zV (A3 : Int), zV (A4 : Int)] 81) = W5 at *
  have HY : Hid (∀ Y, Fresh W5 Y → Wp w Y cs ∧ Y.cell? ⟨q3, 0, none⟩ = some (zV (A1 : Int)) ∧ Y.cell? ⟨q3, 1, none⟩ = some (zV (A2 : Int)) ∧ Y.cell? ⟨q3, 2, none⟩ = some (zV (DN : Int)) ∧ Y.cell? ⟨q3, 3, none⟩ = some (zV (A3 : Int)) ∧ Y.cell? ⟨q3, 4, none⟩ = some (zV (A4 : Int))) := fun Y hY => by
    have h := hY.at hsb (fun e => e)
    exact ⟨hW5.next hY, by rw [Lib.cell_of_heap h]; rfl, by rw [Lib.cell_of_heap h]; rfl, by rw [Lib.cell_of_heap h]; rfl, by rw [Lib.cell_of_heap h]; rfl, by rw [Lib.cell_of_heap h]; rfl⟩
  clear hq3 hsb hW5 HX4
  obtain ⟨hwp, y0, y1, y2, y3, y4⟩ := HY.out W5 (Kept.refl _ _)
  have x8 := hwp.cell k8
  have x9 := hwp.cell k9
  clear hwp
  go_wp2_with fail
  refine Calls.mono (HWW.out _ _ _ _ _ _ _) ?_
  rintro e X6 ⟨rfl, hf⟩
  have HX6 : Hid (Fresh W5 X6) := hf
  clear hf x8 x9 y0 y1 y2 y3 y4
  generalize wwE en (A1 : Int) es 24 = eE at *
  by_cases hE : eE = 0
  case neg =>
    have hne : (eE != 0) = true := bne_iff_ne.2 hE
    have HRR : Hid (R = (3, 0, eE)) := wp_yes HRH.out hE
    obtain ⟨hwp, y0, y1, y2, y3, y4⟩ := HY.out X6 HX6.out
    have HWP := show Hid _ from hwp
    clear hE HRH HWB HWW HFI HY hwp
    have z0 := HWP.out.r0
    have z1 := HWP.out.r1
    have zf := fun k => HWP.out.fz k
    go_wp2
    refine ret_ct rfl (w.heap.size + 1) _ _ _ _ rfl (HWP.out.ret _ _).1 rfl rfl whSize rfl ?_
    refine ⟨?_, (HWP.out.ret _ _).2⟩
    rw [HRR.out]
    rfl
  have hne : (eE != 0) = false := by rw [hE]; rfl
  replace HRH := show Hid (R = _) from wp_no HRH.out hE
  clear hE
  obtain ⟨hwp, y0, y1, y2, y3, y4⟩ := HY.out X6 HX6.out
  have x10 := hwp.cell k10
  have x11 := hwp.cell k11
  clear hwp
  go_wp2
  clear x10 x11 y0 y1 y2 y3 y4 hne
  go_loopw [49] (fun iv wr => ∃ k : Nat, k ≤ 2 ∧ iv = zV k ∧ Hid (Fresh W5 wr ∧ (1 ≤ k → (cn : Int) = (A2 : Int)) ∧ (2 ≤ k → (sn : Int) = (A2 : Int)))) (fun iv _ => 2 - (RowKit.intOf iv).toNat)
  case atStart => exact ⟨0, by omega, rfl, HX6.out, fun h => by omega, fun h => by omega⟩
  case round =>
    obtain ⟨k, hk, rfl, HA⟩ := hrel
    rcases (show k = 0 ∨ k = 1 ∨ k = 2 by omega) with rfl | rfl | rfl
    · have hix : ∀ W, (Instr.index 128 (.agg #[.slice co cn cc, .slice so sn sc]) (zV 0)).run Tryd.prog W = .ok (.slice co cn cc) W := fun W => run_index2 (C := #[.slice co cn cc, .slice so sn sc]) (c := 0) (by omega) rfl W
      obtain ⟨hwp, y0, y1, y2, y3, y4⟩ := HY.out wr HA.out.1
      clear hwp
      have HFX := show Hid _ from HFI.out co cn cc (A2 : Int) wr
      go_wp2_with fail
      refine Calls.mono HFX.out ?_
      rintro e X7 ⟨rfl, hf⟩
      have HX7 : Hid (Fresh W5 X7) := HA.out.1.trans hf (fun _ _ e => e)
      clear hf HFX hix y0 y1 y2 y3 y4
      by_cases hE : (cn : Int) = (A2 : Int)
      case neg =>
        have hne : decide ((cn : Int) = (A2 : Int)) = false := decide_eq_false hE
        have HRR : Hid (R = (4, 0, 161)) := wp_yes2 HRH.out hE
        obtain ⟨hwp, y0, y1, y2, y3, y4⟩ := HY.out X7 HX7.out
        have HWP := show Hid _ from hwp
        clear hE HRH HWB HWW HFI HY hwp HA
        rw [hne]
        have z0 := HWP.out.r0
        have z1 := HWP.out.r1
        have zf := fun k => HWP.out.fz k
        go_wp2
        refine ret_ct rfl (w.heap.size + 1) _ _ _ _ rfl (HWP.out.ret _ _).1 rfl rfl whSize rfl ?_
        refine ⟨?_, (HWP.out.ret _ _).2⟩
        rw [HRR.out]
        rfl
      have hne : decide ((cn : Int) = (A2 : Int)) = true := decide_eq_true hE
      rw [hne]
      have HNX : Hid (Fresh W5 X7 ∧ (1 ≤ 1 → (cn : Int) = (A2 : Int)) ∧ (2 ≤ 1 → (sn : Int) = (A2 : Int))) := ⟨HX7.out, fun h => hE, fun h => by omega⟩
      clear hE hne HA
      go_wp2
      go_roundw
      case rel => exact ⟨1, by omega, by go_num, HNX.out⟩
      case measure => simp [RowKit.intOf]
    · have hix : ∀ W, (Instr.index 128 (.agg #[.slice co cn cc, .slice so sn sc]) (zV 1)).run Tryd.prog W = .ok (.slice so sn sc) W := fun W => run_index2 (C := #[.slice co cn cc, .slice so sn sc]) (c := 1) (by omega) rfl W
      obtain ⟨hwp, y0, y1, y2, y3, y4⟩ := HY.out wr HA.out.1
      clear hwp
      have HFX := show Hid _ from HFI.out so sn sc (A2 : Int) wr
      go_wp2_with fail
      refine Calls.mono HFX.out ?_
      rintro e X7 ⟨rfl, hf⟩
      have HX7 : Hid (Fresh W5 X7) := HA.out.1.trans hf (fun _ _ e => e)
      clear hf HFX hix y0 y1 y2 y3 y4
      by_cases hE : (sn : Int) = (A2 : Int)
      case neg =>
        have hne : decide ((sn : Int) = (A2 : Int)) = false := decide_eq_false hE
        have HRR : Hid (R = (4, 1, 161)) := wp_yes2 (wp_no2 HRH.out (HA.out.2.1 (by omega))) hE
        obtain ⟨hwp, y0, y1, y2, y3, y4⟩ := HY.out X7 HX7.out
        have HWP := show Hid _ from hwp
        clear hE HRH HWB HWW HFI HY hwp HA
        rw [hne]
        have z0 := HWP.out.r0
        have z1 := HWP.out.r1
        have zf := fun k => HWP.out.fz k
        go_wp2
        refine ret_ct rfl (w.heap.size + 1) _ _ _ _ rfl (HWP.out.ret _ _).1 rfl rfl whSize rfl ?_
        refine ⟨?_, (HWP.out.ret _ _).2⟩
        rw [HRR.out]
        rfl
      have hne : decide ((sn : Int) = (A2 : Int)) = true := decide_eq_true hE
      rw [hne]
      have HNX : Hid (Fresh W5 X7 ∧ (1 ≤ 2 → (cn : Int) = (A2 : Int)) ∧ (2 ≤ 2 → (sn : Int) = (A2 : Int))) := ⟨HX7.out, fun h => HA.out.2.1 (by omega), fun h => hE⟩
      clear hE hne HA
      go_wp2
      go_roundw
      case rel => exact ⟨2, by omega, by go_num, HNX.out⟩
      case measure => simp [RowKit.intOf]
    · have hE1 := HA.out.2.1 (by omega)
      have hE2 := HA.out.2.2 (by omega)
      replace HRH := show Hid (R = _) from wp_no2 (wp_no2 HRH.out hE1) hE2
      have HX8 : Hid (Fresh W5 wr) := HA.out.1
      clear HA hE1 hE2
      go_upto_region 17 with fail
      obtain ⟨hwp, y0, y1, y2, y3, y4⟩ := HY.out wr HX8.out
      have x4 := hwp.cell k4
      have x12 := hwp.cell k12
      have HWBX := show Hid _ from HWB.out wr hwp.fr (LN : Int) (A1 : Int) (A2 : Int) A3 A4 DN
      clear hwp HWB
      generalize (wbG (LN : Int) A3 A4 DN 0 L).1 = bN at *
      generalize (wbG (LN : Int) A3 A4 DN 0 L).2 = bE at *
      go_wp2_with fail
      refine Calls.mono HWBX.out ?_
      rintro e X9 ⟨rfl, hf⟩
      have HX9 : Hid (Fresh W5 X9) := HX8.out.trans hf (fun _ _ e => e)
      clear hf HWBX HX8 x4 x12 y0 y1 y2 y3 y4
      by_cases hE : bE = 0
      case neg =>
        have hne : (bE != 0) = true := bne_iff_ne.2 hE
        have HRR : Hid (R = (5, bN, bE)) := wp_yes HRH.out hE
        obtain ⟨hwp, y0, y1, y2, y3, y4⟩ := HY.out X9 HX9.out
        have HWP := show Hid _ from hwp
        clear hE HRH HWW HFI HY hwp
        have z0 := HWP.out.r0
        have z1 := HWP.out.r1
        have zf := fun k => HWP.out.fz k
        go_wp2
        refine ret_ct rfl (w.heap.size + 1) _ _ _ _ rfl (HWP.out.ret _ _).1 rfl rfl whSize rfl ?_
        refine ⟨?_, (HWP.out.ret _ _).2⟩
        rw [HRR.out]
        rfl
      have hne : (bE != 0) = false := by rw [hE]; rfl
      replace HRH := show Hid (R = _) from wp_no HRH.out hE
      clear hE
      go_upto_region 20 with fail
      clear hne
      obtain ⟨hwp, y0, y1, y2, y3, y4⟩ := HY.out X9 HX9.out
      have xx := hwp.cell k13
      have HFX := show Hid _ from HFI.out beo bn bec 256 X9
      clear hwp
      go_wp2_with fail
      refine Calls.mono HFX.out ?_
      rintro e XA ⟨rfl, hf⟩
      have HXA : Hid (Fresh W5 XA) := HX9.out.trans hf (fun _ _ e => e)
      clear hf HFX xx y0 y1 y2 y3 y4 HX9
      by_cases hE : (bn : Int) = 256
      case neg =>
        have hne : decide ((bn : Int) = 256) = false := decide_eq_false hE
        have HRR : Hid (R = (6, 0, 161)) := wp_yes2 HRH.out hE
        obtain ⟨hwp, y0, y1, y2, y3, y4⟩ := HY.out XA HXA.out
        have HWP := show Hid _ from hwp
        clear hE HRH HWW HFI HY hwp
        rw [hne]
        have z0 := HWP.out.r0
        have z1 := HWP.out.r1
        have zf := fun k => HWP.out.fz k
        go_wp2
        refine ret_ct rfl (w.heap.size + 1) _ _ _ _ rfl (HWP.out.ret _ _).1 rfl rfl whSize rfl ?_
        refine ⟨?_, (HWP.out.ret _ _).2⟩
        rw [HRR.out]
        rfl
      have hne : decide ((bn : Int) = 256) = true := decide_eq_true hE
      rw [hne]
      replace HRH := show Hid (R = _) from wp_no2 HRH.out hE
      clear hE hne
      go_upto_region 22 with fail
      obtain ⟨hwp, y0, y1, y2, y3, y4⟩ := HY.out XA HXA.out
      have xx := hwp.cell k14
      have HFX := show Hid _ from HFI.out go gn gc (DN : Int) XA
      clear hwp
      go_wp2_with fail
      refine Calls.mono HFX.out ?_
      rintro e XB ⟨rfl, hf⟩
      have HXB : Hid (Fresh W5 XB) := HXA.out.trans hf (fun _ _ e => e)
      clear hf HFX xx y0 y1 y2 y3 y4 HXA
      by_cases hE : (gn : Int) = (DN : Int)
      case neg =>
        have hne : decide ((gn : Int) = (DN : Int)) = false := decide_eq_false hE
        have HRR : Hid (R = (7, 0, 161)) := wp_yes2 HRH.out hE
        obtain ⟨hwp, y0, y1, y2, y3, y4⟩ := HY.out XB HXB.out
        have HWP := show Hid _ from hwp
        clear hE HRH HWW HFI HY hwp
        rw [hne]
        have z0 := HWP.out.r0
        have z1 := HWP.out.r1
        have zf := fun k => HWP.out.fz k
        go_wp2
        refine ret_ct rfl (w.heap.size + 1) _ _ _ _ rfl (HWP.out.ret _ _).1 rfl rfl whSize rfl ?_
        refine ⟨?_, (HWP.out.ret _ _).2⟩
        rw [HRR.out]
        rfl
      have hne : decide ((gn : Int) = (DN : Int)) = true := decide_eq_true hE
      rw [hne]
      replace HRH := show Hid (R = _) from wp_no2 HRH.out hE
      clear hE hne
      go_upto_region 24 with fail
      obtain ⟨hwp, y0, y1, y2, y3, y4⟩ := HY.out XB HXB.out
      have x15 := hwp.cell k15
      have x16 := hwp.cell k16
      clear hwp
      go_wp2_with fail
      refine Calls.mono (HWW.out _ _ _ _ _ _ _) ?_
      rintro e XC ⟨rfl, hf⟩
      have HXC : Hid (Fresh W5 XC) := HXB.out.trans hf (fun _ _ e => e)
      clear hf x15 x16 y0 y1 y2 y3 y4 HXB
      obtain ⟨hwp, y0, y1, y2, y3, y4⟩ := HY.out XC HXC.out
      have HWP := show Hid _ from hwp
      clear hwp y0 y1 y2 y3 y4 HY HWW HFI
      generalize wwE un (A1 : Int) ls 31 = uE at *
      by_cases hE : uE = 0
      case neg =>
        have hne : (uE != 0) = true := bne_iff_ne.2 hE
        have HRR : Hid (R = (8, 0, uE)) := wp_yes HRH.out hE
        clear hE HRH
        have z0 := HWP.out.r0
        have z1 := HWP.out.r1
        have zf := fun k => HWP.out.fz k
        go_wp2
        refine ret_ct rfl (w.heap.size + 1) _ _ _ _ rfl (HWP.out.ret _ _).1 rfl rfl whSize rfl ?_
        refine ⟨?_, (HWP.out.ret _ _).2⟩
        rw [HRR.out]
        rfl
      have hne : (uE != 0) = false := by rw [hE]; rfl
      have HRR : Hid (R = (0, 0, 0)) := wp_no HRH.out hE
      clear hE HRH
      have z0 := HWP.out.r0
      have z1 := HWP.out.r1
      have zf := fun k => HWP.out.fz k
      go_wp2
      refine ret_ct rfl (w.heap.size + 1) _ _ _ _ rfl (HWP.out.ret _ _).1 rfl rfl whSize rfl ?_
      refine ⟨?_, (HWP.out.ret _ _).2⟩
      rw [HRR.out]
      rfl
end Go.Proofs.YtakiimjldccgcabDoor

/-
  The reaches of a model, as numbers.
-/
namespace Go.Proofs.YtakiimjldccgcabDoor
open Go.RowKit Go.Lib Go.Maps

theorem near_range {x d : Int} (h : 0 ≤ x) (hd : 1 ≤ d) : 0 ≤ near x d ∧ near x d ≤ x + 1 := by
  have h1 : 0 ≤ x / d := Int.ediv_nonneg h (by omega)
  have h2 : x / d ≤ x := Int.ediv_le_self _ h
  unfold near
  split <;> omega
theorem rdQ_range {x : Int} (s : Int) (h : 0 ≤ x) : 0 ≤ rdQ x s ∧ rdQ x s ≤ x + 1 := by
  unfold rdQ
  split
  · omega
  · exact near_range h (Int.pow_pos (by decide))
theorem moF_range {L : List Int} (s : Int) (hL : ∀ j, 0 ≤ L.getD j 0 ∧ L.getD j 0 ≤ 134217728) : ∀ j, 0 ≤ moF L s j ∧ moF L s j ≤ 17045651457
  | 0 => ⟨Int.le_refl _, by show (0 : Int) ≤ _; decide⟩
  | j + 1 => by
    have h1 := moF_range s hL j
    obtain ⟨h2, h3⟩ := hL j
    have h4 := rdQ_range s (x := 127 * L.getD j 0) (by omega)
    show 0 ≤ max _ _ ∧ max _ _ ≤ _
    omega
theorem zL_get {zs : List Int} (c : Int) (hz : ∀ z ∈ zs, C8 z) (j : Nat) : 0 ≤ (zL zs c).getD j 0 ∧ (zL zs c).getD j 0 ≤ 134217728 := by
  have h := zL_i64 c hz
  rcases Nat.lt_or_ge j (zL zs c).length with e | e
  · rw [List.getD_eq_getElem?_getD, List.getElem?_eq_getElem e]
    exact h _ (List.getElem_mem e)
  · rw [List.getD_eq_getElem?_getD, List.getElem?_eq_none e]
    exact ⟨Int.le_refl _, by decide⟩
/-- What comes out of a block's two halves at most. -/
def moO (m : Md) (i : Nat) : Int := moF (zL (gBk m.L i).o m.s.d) (gBk m.L i).os (zL (gBk m.L i).o m.s.d).length
def moD (m : Md) (i : Nat) : Int := moF (zL (gBk m.L i).md m.s.n) (gBk m.L i).ds (zL (gBk m.L i).md m.s.n).length
/-- How far numbers reach behind so many blocks. -/
def rA (m : Md) : Nat → Int
  | 0 => gzF m.E m.E.length * 2 ^ m.es.toNat
  | j + 1 => rA m j + moO m j + moD m j
/-- The reaches up to there. -/
def rL (m : Md) : Nat → List Int
  | 0 => [rA m 0]
  | j + 1 => (rL m j ++ [rA m j + moO m j]) ++ [rA m j + moO m j + moD m j]
theorem rL_len (m : Md) : ∀ j, (rL m j).length = 1 + 2 * j
  | 0 => rfl
  | j + 1 => by
    show ((rL m j ++ _) ++ _).length = _
    rw [List.length_append, List.length_append, rL_len m j]
    show 1 + 2 * j + 1 + 1 = _
    omega
/-- The parts of a model whose reaches can be told. -/
structure Mok (m : Md) : Prop where
  e : ∀ z ∈ m.E, C8 z
  es : 0 ≤ m.es ∧ m.es ≤ 24
  l : m.L.length ≤ 8
  o : ∀ i, i < m.L.length → ∀ z ∈ (gBk m.L i).o, C8 z
  d : ∀ i, i < m.L.length → ∀ z ∈ (gBk m.L i).md, C8 z
theorem Mok.half {m : Md} (h : Mok m) {i : Nat} (hi : i < m.L.length) : (0 ≤ moO m i ∧ moO m i ≤ 17045651457) ∧ (0 ≤ moD m i ∧ moD m i ≤ 17045651457) :=
  ⟨moF_range _ (zL_get _ (h.o i hi)) _, moF_range _ (zL_get _ (h.d i hi)) _⟩
theorem pow24 {k : Nat} (h : k ≤ 24) : 1 ≤ (2 : Int) ^ k ∧ (2 : Int) ^ k ≤ 16777216 := by
  have h1 : (2 : Nat) ^ k ≤ 2 ^ 24 := Nat.pow_le_pow_right (by decide) h
  have h2 : 1 ≤ (2 : Nat) ^ k := Nat.one_le_two_pow
  have e : (2 : Int) ^ k = ((2 ^ k : Nat) : Int) := by simp
  rw [e]
  constructor <;> omega
theorem Mok.first {m : Md} (h : Mok m) : 0 ≤ rA m 0 ∧ rA m 0 ≤ 2147483648 := by
  obtain ⟨g1, g2⟩ := gzF_range h.e m.E.length
  obtain ⟨e1, e2⟩ := h.es
  obtain ⟨p1, p2⟩ := pow24 (k := m.es.toNat) (by omega)
  show 0 ≤ gzF m.E m.E.length * 2 ^ m.es.toNat ∧ gzF m.E m.E.length * 2 ^ m.es.toNat ≤ _
  have h1 : gzF m.E m.E.length * 2 ^ m.es.toNat ≤ 128 * 16777216 := Int.mul_le_mul g2 p2 (by omega) (by decide)
  exact ⟨Int.mul_nonneg g1 (by omega), by omega⟩
theorem Mok.range {m : Md} (h : Mok m) : ∀ j, j ≤ m.L.length → 0 ≤ rA m j ∧ rA m j ≤ 2147483648 + 34091302914 * j
  | 0, _ => by have := h.first; omega
  | j + 1, hj => by
    have h1 := h.range j (by omega)
    have h2 := h.half (i := j) (by omega)
    show 0 ≤ rA m j + moO m j + moD m j ∧ rA m j + moO m j + moD m j ≤ _
    omega
/-- Every reach is a number of 64 bits. -/
theorem Mok.i64 {m : Md} (h : Mok m) : ∀ j, j ≤ m.L.length → ∀ z ∈ rL m j, 0 ≤ z ∧ z ≤ 1000000000000
  | 0, _, z, hz => by
    have : z = rA m 0 := by simpa [rL] using hz
    have := h.first
    omega
  | j + 1, hj, z, hz => by
    have h1 := h.range j (by omega)
    have h2 := h.half (i := j) (by omega)
    have h3 := h.l
    have hz' : z ∈ (rL m j ++ [rA m j + moO m j]) ++ [rA m j + moO m j + moD m j] := hz
    rw [List.mem_append, List.mem_append, List.mem_singleton, List.mem_singleton] at hz'
    rcases hz' with (h4 | h4) | h4
    · exact h.i64 j (by omega) z h4
    · omega
    · omega
end Go.Proofs.YtakiimjldccgcabDoor
