/-
  Unpack, the document's.
-/
import Derived.Test.YtlepdogfgpeogaaVdb
namespace Go.Proofs.Ytlepdogfgpeogaa
open Go.RowKit Go.Lib Go.Maps

theorem step_app {P : Program} {ops : Array Oper} {o : Oper} {a : Act} {w : World} {K : Act → World → Prop} {Q : Exit → Act → World → Prop} {E : Prop} (hgd : o.guard = none) (s x : Operand) (t tn : TypeId)
    (ho : o.op = .call { callee := .builtin .append, args := #[s, x], argTypes := #[t, tn] }) (vs vx : Value) (hs : a.eval s = vs) (hx : a.eval x = vx)
    (v' : Value) (w' : World) (hr : (Builtin.append_ #[t, tn] o.type #[vs, vx]).run P w = .ok v' w') (h : K (a.put o.dst v') w') :
    if Region.wanted o (yielded ops a.tmps) = true then Oper.wp P o a w K Q else E := by
  have hw : Region.wanted o (yielded ops a.tmps) = true := by simp [Region.wanted, hgd]
  rw [if_pos hw]
  exact wp_append_run w s x t tn ho vs vx hs hx v' w' hr h

set_option maxHeartbeats 8000000 in
set_option maxRecDepth 100000 in
theorem refUnpack_any (p : Nat → Prop) (n g : Int) (sv hv : Value) (ss hs : List Int) (w : World) (hS : Rk .u8 p w sv ss) (hH : Rk .u8 p w hv hs) (hn : I64 n) (hg : I64 g) :
    Calls Try.prog 22 #[.agg #[zV n, zV g, sv, hv]] w fun e w' => Gives .i8 38 (uL n g ss hs) (uE n g ss hs) w e w' := by
  obtain ⟨sa, scp, hsv, _⟩ := hS.shape
  obtain ⟨ba, bcp, hhv, _⟩ := hH.shape
  obtain ⟨W0, hW0⟩ : ∃ W0, W0 = w.alloc (.cells #[zV n, zV g, sv, hv] 51) := ⟨_, rfl⟩
  have hbox : W0.heap[w.heap.size]? = some (.cells #[zV n, zV g, sv, hv] 51 (0, 0)) := by rw [hW0]; exact heap_alloc_new w _
  have hF0 : Fresh w W0 := by rw [hW0]; exact (Kept.refl _ w).alloc _
  have HF0 : Hid (Fresh w W0) := hF0
  have HP : Hid (∀ W, Fresh W0 W → W.cell? ⟨w.heap.size, 0, none⟩ = some (zV n) ∧ W.cell? ⟨w.heap.size, 1, none⟩ = some (zV g) ∧ W.cell? ⟨w.heap.size, 2, none⟩ = some sv ∧ W.cell? ⟨w.heap.size, 3, none⟩ = some hv) := fun W hF => by
    have q1 := hF.at hbox (fun e => e)
    exact ⟨by rw [Lib.cell_of_heap q1]; rfl, by rw [Lib.cell_of_heap q1]; rfl, by rw [Lib.cell_of_heap q1]; rfl, by rw [Lib.cell_of_heap q1]; rfl⟩
  have HIs : Hid (Unit → _) := fun (_ : Unit) => right_any p n g sv hv ss hs W0 (hS.fresh hF0) (hH.fresh hF0) hn hg
  have HG : Hid (∀ (W : World), Fresh w W → Gives .i8 38 [] 84 w (.returned (.tuple #[.slice none 0 0, zV 84])) W) := fun W hF => ⟨_, rfl, own_nil _ _ _, hF⟩
  subst hsv
  subst hhv
  obtain ⟨c0, c1, c2, c3⟩ := HP.out W0 (Kept.refl _ _)
  cases hr : rightB n g ss hs with
  | false =>
    have HE : Hid (uL n g ss hs = [] ∧ uE n g ss hs = 84) := ⟨by unfold uL; rw [hr]; rfl, by unfold uE; rw [hr]; rfl⟩
    rw [HE.out.1, HE.out.2]
    rw [hr] at HIs
    clear hS hH hbox hF0 hr
    go_enter Try.func22, Try.ntmps22
    go_wp2_with fail
    rw [← hW0]
    refine (HIs.out ()).mono ?_
    rintro e w1 ⟨rfl, hF1⟩
    have HF1 : Hid (Fresh w w1) := HF0.out.trans hF1 (fun _ _ e => e)
    clear HIs hF1 hW0 c0 c1 c2 c3
    go_wp2
    go_ret2
    exact HG.out _ HF1.out
  | true =>
    obtain ⟨⟨n0, n1⟩, ⟨g0, g1⟩, hl1, hl2, hl3⟩ := rightB_true hr
    obtain ⟨N, rfl⟩ := Int.eq_ofNat_of_zero_le n0
    obtain ⟨G, rfl⟩ := Int.eq_ofNat_of_zero_le (show 0 ≤ g by omega)
    have HE : Hid (uL N G ss hs = uA N G ss hs ∧ uE N G ss hs = 0) := ⟨by unfold uL; rw [hr]; rfl, by unfold uE; rw [hr]; rfl⟩
    rw [HE.out.1, HE.out.2]
    rw [hr] at HIs
    have HHv : Hid (∀ i, i < N → ∃ b off q : Nat, ba = some ⟨b, off, none⟩ ∧ i / 2 = q ∧ q < hs.length ∧ (0 ≤ hs.getD q 0 ∧ hs.getD q 0 ≤ 255) ∧ ∀ W, Fresh w W → W.cell? ⟨b, off + q, none⟩ = some (uV (hs.getD q 0))) := fun i hi => by
      have hlt : i / 2 < hs.length := by omega
      obtain ⟨b, off, e, _, hb, hcell⟩ := hH.cells.2.2.2 (by omega)
      exact ⟨b, off, i / 2, e, rfl, hlt, hH.get (i / 2), fun W hF => (hF.cell (p := ⟨b, off + i / 2, none⟩) hb (fun e => e)).trans (hcell _ hlt)⟩
    have HSh : Hid (∀ i, i < N → ∃ b off k q : Nat, sa = some ⟨b, off, none⟩ ∧ i / G = q ∧ q < ss.length ∧ k ≤ 5 ∧ (ss.getD q 0).toNat = k ∧ ∀ W, Fresh w W → W.cell? ⟨b, off + q, none⟩ = some (uV (k : Int))) := fun i hi => by
      have hlt : i / G < ss.length := by
        have h1 := group_lt (G := G) (by omega) hi
        have h2 : (ss.length : Int) = ((N + G - 1) / G : Nat) := by
          rw [hl1]
          have : ((N + G - 1 : Nat) : Int) = (N : Int) + (G : Int) - 1 := by omega
          rw [← this]; rfl
        omega
      obtain ⟨b, off, e, _, hb, hcell⟩ := hS.cells.2.2.2 (Nat.lt_of_le_of_lt (Nat.zero_le _) hlt)
      obtain ⟨x0, x1⟩ := hS.get (i / G)
      have h5 := hl3 (i / G)
      refine ⟨b, off, (ss.getD (i / G) 0).toNat, i / G, e, rfl, hlt, by omega, rfl, fun W hF => ?_⟩
      rw [(hF.cell (p := ⟨b, off + i / G, none⟩) hb (fun e => e)).trans (hcell _ hlt)]
      congr 2
      omega
    have HNar : Hid (∀ (y : Int) (W : World), _) := fun y W => refNarrow_any y W
    obtain ⟨ls, hls⟩ : ∃ ls, ss.length = ls := ⟨_, rfl⟩
    obtain ⟨lh, hlh⟩ : ∃ lh, hs.length = lh := ⟨_, rfl⟩
    rw [hls] at HSh HP c2 hW0 HIs ⊢
    rw [hlh] at HHv HP c3 hW0 HIs ⊢
    clear hS hH hbox hF0 hr hl1 hl2 hl3 hls hlh
    go_enter Try.func22, Try.ntmps22
    go_wp2_with fail
    rw [← hW0]
    refine (HIs.out ()).mono ?_
    rintro e w1 ⟨rfl, hF1⟩
    have HF1 : Hid (Fresh W0 w1) := hF1
    have hbl : w.heap.size < w1.heap.size := Nat.lt_of_lt_of_le (by have := World.block_lt_of_cell? W0 _ c0; simpa using this) hF1.size
    clear HIs hF1 hW0 c0 c1 c2 c3
    have HO : Hid ((w1.alloc (.cells #[] 38)).ownsRow w1.heap.size 38 1 (.slice (some ⟨w1.heap.size, 0, none⟩) 0 0) 0 (((uA N G ss hs).take 0).map (Value.int .i8)) ∧ Fresh w1 (w1.alloc (.cells #[] 38))) := ⟨own_empty w1 _ (Nat.le_refl _) _, (Kept.refl _ w1).alloc _⟩
    have hGz : ¬ (G : Int) = 0 := by omega
    go_wp2
    go_loopw [4, 5] (fun ov iv wr => ∃ j go cp : Nat, j ≤ N ∧ iv = zV j ∧ ov = .slice (some ⟨go, 0, none⟩) j cp ∧ Hid (wr.ownsRow w1.heap.size 38 1 (.slice (some ⟨go, 0, none⟩) j cp) j (((uA N G ss hs).take j).map (Value.int .i8)) ∧ Fresh w1 wr)) (fun _ iv _ => N - (RowKit.intOf iv).toNat)
    case atStart => exact ⟨0, w1.heap.size, 0, Nat.zero_le _, rfl, rfl, HO.out⟩
    case round =>
      obtain ⟨j, go, cp, hj, rfl, rfl, HA⟩ := hrel
      clear HO
      have hFw : Hid (∀ W, Fresh w1 W → Fresh w W ∧ Fresh W0 W) := fun W hF => ⟨(HF0.out.trans HF1.out (fun _ _ e => e)).trans hF (fun _ _ e => e), HF1.out.trans hF (fun _ _ e => e)⟩
      obtain ⟨r0, r1, r2, r3⟩ := HP.out wr (hFw.out _ HA.out.2).2
      by_cases hlt : j < N
      · obtain ⟨b, off, k, q, rfl, hq, hql, hk5, hkk, hcell⟩ := HSh.out j hlt
        obtain ⟨b2, off2, q2, rfl, hq2, hql2, ⟨x0, x1⟩, hcell2⟩ := HHv.out j hlt
        have HSt : Hid (∀ W, Fresh w1 W → W.cell? ⟨w.heap.size, 1, none⟩ = some (zV (G : Int)) ∧ W.cell? ⟨w.heap.size, 2, none⟩ = some (.slice (some ⟨b, off, none⟩) ls scp) ∧ W.cell? ⟨b, off + q, none⟩ = some (uV (k : Int))) := fun W hF => ⟨(HP.out W (hFw.out W hF).2).2.1, (HP.out W (hFw.out W hF).2).2.2.1, hcell W (hFw.out W hF).1⟩
        have q1 := hcell2 wr (hFw.out _ HA.out.2).1
        have hlt' : (j : Int) < (N : Int) := by omega
        have hq' : (j : Int) / (G : Int) = (q : Int) := by rw [← hq]; rfl
        have hql' : (q : Int) < (ls : Int) := by omega
        have hGp : (0 : Int) < (G : Int) := by omega
        have hqb : q ≤ 1048576 := by rw [← hq]; exact Nat.le_trans (Nat.div_le_self _ _) (by omega)
        have hqb' : (q : Int) ≤ 1048576 := by omega
        have hq2' : (j : Int) / 2 = (q2 : Int) := by omega
        have hq2l : (q2 : Int) < (lh : Int) := by omega
        obtain ⟨y, hy⟩ : ∃ y, s4 (nib hs j) = y := ⟨_, rfl⟩
        have hyb := s4_bound (nib hs j)
        rw [hy] at hyb
        have hpb := small_shl hyb hk5
        obtain ⟨P, hP⟩ : ∃ P, y * 2 ^ k = P := ⟨_, rfl⟩
        rw [hP] at hpb
        obtain ⟨p0, p1⟩ := hpb
        have hwP : IntKind.i64.wrap P = P := by first | (rw [IntKind.wrap_i64]; omega) | (rw [IntKind.wrap_i64]; unfold wrap64; omega)
        have hk2 : (2 : Int) ^ k ≤ 32 := by
          have h2 : ((2 ^ k : Nat) : Int) ≤ ((2 ^ 5 : Nat) : Int) := Int.ofNat_le.2 (Nat.pow_le_pow_right (by omega) hk5)
          simpa using h2
        have hk3 : 1 ≤ (2 : Int) ^ k := Int.add_one_le_of_lt (Int.pow_pos (by omega))
        obtain ⟨Q, hQ⟩ : ∃ Q, clamp P (-127) 127 = Q := ⟨_, rfl⟩
        have hu64 : IntKind.u64.wrap (k : Int) = (k : Int) := by rw [IntKind.wrap_u64]; omega
        have hw2 : IntKind.i64.wrap ((2 : Int) ^ k) = 2 ^ k := by first | (rw [IntKind.wrap_i64]; omega) | (rw [IntKind.wrap_i64]; unfold wrap64; omega)
        have harg : IntKind.i64.wrap (y * IntKind.i64.wrap (2 ^ min (IntKind.u64.wrap (k : Int)).toNat 64)) = P := by rw [hu64, Int.toNat_natCast, Nat.min_eq_left (by omega), hw2, hP, hwP]
        have hcl : clamp (IntKind.i64.wrap (y * IntKind.i64.wrap (2 ^ min (IntKind.u64.wrap (k : Int)).toNat 64))) (-127) 127 = Q := by rw [harg]; exact hQ
        have HC2 : Hid (Unit → _) := fun (_ : Unit) => HNar.out (IntKind.i64.wrap (y * IntKind.i64.wrap (2 ^ min (IntKind.u64.wrap (k : Int)).toNat 64))) wr.drew
        rw [hcl] at HC2
        clear hcl harg hw2 hu64
        have HSt2 : Hid ((uA N G ss hs).take (j + 1) = (uA N G ss hs).take j ++ [Q]) := by
          have : uN G ss hs j = Q := by unfold uN; rw [hy, hq, hkk, hP, hQ]
          show _ = _
          unfold uA
          rw [range_take _ hlt, this]
        have HPu : Hid (∀ d, ∃ ga ca Wa, (Builtin.append_ #[22, 22] 22 #[.slice (some ⟨go, 0, none⟩) j cp, .slice (some ⟨(wr.drewN d).heap.size, 0, none⟩) 1 1]).run Try.prog ((wr.drewN d).alloc (.cells #[.int .i8 Q] 38)) = .ok (.slice (some ⟨ga, 0, none⟩) (j + 1) ca) Wa ∧ Wa.ownsRow w1.heap.size 38 1 (.slice (some ⟨ga, 0, none⟩) (j + 1) ca) (j + 1) (((uA N G ss hs).take (j + 1)).map (Value.int .i8)) ∧ Fresh w1 Wa) := fun d => by
          have hO3 : (wr.drewN d).ownsRow w1.heap.size 38 1 (.slice (some ⟨go, 0, none⟩) j cp) j (((uA N G ss hs).take j).map (Value.int .i8)) := owns_kept HA.out.1 ((Kept.refl (fun _ => False) wr).drewN d) (fun _ _ e => e)
          obtain ⟨ga, ca, Wa, hra, hoa, hga, hka⟩ := push ty8 (wr.drewN d) w1.heap.size go cp j ((uA N G ss hs).take j) Q hO3 (by simp [kb]; omega) (HA.out.2.drewN d).size
          have hgb := (own_block hO3).1
          exact ⟨ga, ca, Wa, hra, by rw [HSt2.out]; exact hoa, (HA.out.2.drewN d).trans hka (fun i hi e => by omega)⟩
        have hS0 := HSt.out wr.drew HA.out.2.drew
        have HF : Hid (∀ d, Fresh w1 (wr.drewN d)) := fun d => HA.out.2.drewN d
        have HNb : Hid (nib hs j = if j % 2 = 0 then hs.getD q2 0 else hs.getD q2 0 / 16) := by show _ = _; unfold nib; rw [hq2]
        clear hcell hcell2 HSt2 hq hkk hyb HA
        obtain ⟨x, hx⟩ : ∃ x, hs.getD q2 0 = x := ⟨_, rfl⟩
        rw [hx] at q1 x0 x1 HNb
        have hy2 : s4 (if j % 2 = 0 then x else x / 16) = y := by rw [← HNb.out]; exact hy
        clear hy HNb hx hq2
        by_cases hev : j % 2 = 0
        · have hev' : (j : Int) % 2 = 0 := by omega
          rw [if_pos hev] at hy2
          by_cases h7 : 7 < x % 16
          · have hy3 : x % 16 - 16 = y := by unfold s4 at hy2; rw [if_pos h7] at hy2; exact hy2
            clear hy2
            go_wp2_with fail
            go_region_held_law (fun X => X.cell? ⟨w.heap.size, 1, none⟩ = some (zV (G : Int)) ∧ X.cell? ⟨w.heap.size, 2, none⟩ = some (.slice (some ⟨b, off, none⟩) ls scp) ∧ X.cell? ⟨b, off + q, none⟩ = some (uV (k : Int)))
              (first | exact hS0 | exact HSt.out _ (HF.out _) | exact HSt.out _ ((HF.out _).alloc _) | exact hS6 | assumption)
              (first
                | (go_at_call 16; (with_reducible refine (HC2.out ()).mono ?_); rintro q5 X5 ⟨rfl, d5, rfl⟩)
                | (obtain ⟨ga, ca, Wa, hra, hoa, hFa⟩ := HPu.out (1 + d5); refine step_app rfl _ _ _ _ rfl _ _ (by rfl) (by rfl) _ _ hra ?_; have hS6 := HSt.out Wa hFa))
            all_goals
              have HY := show Hid (_ ∧ Fresh w1 Wa) from ⟨hoa, hFa⟩
              clear hS0 hS6 hoa hFa hra r0 r1 r2 r3 q1
              go_wp2
              go_roundw
              case rel => exact ⟨j + 1, ga, ca, hlt, by go_num, rfl, HY.out⟩
              case measure => simp [RowKit.intOf]; omega
          · have hy3 : x % 16 = y := by unfold s4 at hy2; rw [if_neg h7] at hy2; exact hy2
            clear hy2
            go_wp2_with fail
            go_region_held_law (fun X => X.cell? ⟨w.heap.size, 1, none⟩ = some (zV (G : Int)) ∧ X.cell? ⟨w.heap.size, 2, none⟩ = some (.slice (some ⟨b, off, none⟩) ls scp) ∧ X.cell? ⟨b, off + q, none⟩ = some (uV (k : Int)))
              (first | exact hS0 | exact HSt.out _ (HF.out _) | exact HSt.out _ ((HF.out _).alloc _) | exact hS6 | assumption)
              (first
                | (go_at_call 16; (with_reducible refine (HC2.out ()).mono ?_); rintro q5 X5 ⟨rfl, d5, rfl⟩)
                | (obtain ⟨ga, ca, Wa, hra, hoa, hFa⟩ := HPu.out (1 + d5); refine step_app rfl _ _ _ _ rfl _ _ (by rfl) (by rfl) _ _ hra ?_; have hS6 := HSt.out Wa hFa))
            all_goals
              have HY := show Hid (_ ∧ Fresh w1 Wa) from ⟨hoa, hFa⟩
              clear hS0 hS6 hoa hFa hra r0 r1 r2 r3 q1
              go_wp2
              go_roundw
              case rel => exact ⟨j + 1, ga, ca, hlt, by go_num, rfl, HY.out⟩
              case measure => simp [RowKit.intOf]; omega
        · have hev' : (j : Int) % 2 = 1 := by omega
          rw [if_neg hev] at hy2
          have hxm : x / 16 % 16 = x / 16 := by omega
          by_cases h7 : 7 < x / 16
          · have hy3 : x / 16 - 16 = y := by unfold s4 at hy2; rw [hxm, if_pos h7] at hy2; exact hy2
            clear hy2 hxm
            go_wp2_with fail
            go_region_held_law (fun X => X.cell? ⟨w.heap.size, 1, none⟩ = some (zV (G : Int)) ∧ X.cell? ⟨w.heap.size, 2, none⟩ = some (.slice (some ⟨b, off, none⟩) ls scp) ∧ X.cell? ⟨b, off + q, none⟩ = some (uV (k : Int)))
              (first | exact hS0 | exact HSt.out _ (HF.out _) | exact HSt.out _ ((HF.out _).alloc _) | exact hS6 | assumption)
              (first
                | (go_at_call 16; (with_reducible refine (HC2.out ()).mono ?_); rintro q5 X5 ⟨rfl, d5, rfl⟩)
                | (obtain ⟨ga, ca, Wa, hra, hoa, hFa⟩ := HPu.out (1 + d5); refine step_app rfl _ _ _ _ rfl _ _ (by rfl) (by rfl) _ _ hra ?_; have hS6 := HSt.out Wa hFa))
            all_goals
              have HY := show Hid (_ ∧ Fresh w1 Wa) from ⟨hoa, hFa⟩
              clear hS0 hS6 hoa hFa hra r0 r1 r2 r3 q1
              go_wp2
              go_roundw
              case rel => exact ⟨j + 1, ga, ca, hlt, by go_num, rfl, HY.out⟩
              case measure => simp [RowKit.intOf]; omega
          · have hy3 : x / 16 = y := by unfold s4 at hy2; rw [hxm, if_neg h7] at hy2; exact hy2
            clear hy2 hxm
            go_wp2_with fail
            go_region_held_law (fun X => X.cell? ⟨w.heap.size, 1, none⟩ = some (zV (G : Int)) ∧ X.cell? ⟨w.heap.size, 2, none⟩ = some (.slice (some ⟨b, off, none⟩) ls scp) ∧ X.cell? ⟨b, off + q, none⟩ = some (uV (k : Int)))
              (first | exact hS0 | exact HSt.out _ (HF.out _) | exact HSt.out _ ((HF.out _).alloc _) | exact hS6 | assumption)
              (first
                | (go_at_call 16; (with_reducible refine (HC2.out ()).mono ?_); rintro q5 X5 ⟨rfl, d5, rfl⟩)
                | (obtain ⟨ga, ca, Wa, hra, hoa, hFa⟩ := HPu.out (1 + d5); refine step_app rfl _ _ _ _ rfl _ _ (by rfl) (by rfl) _ _ hra ?_; have hS6 := HSt.out Wa hFa))
            all_goals
              have HY := show Hid (_ ∧ Fresh w1 Wa) from ⟨hoa, hFa⟩
              clear hS0 hS6 hoa hFa hra r0 r1 r2 r3 q1
              go_wp2
              go_roundw
              case rel => exact ⟨j + 1, ga, ca, hlt, by go_num, rfl, HY.out⟩
              case measure => simp [RowKit.intOf]; omega
      · obtain rfl : j = N := by omega
        have HX : Hid (Gives .i8 38 (uA j G ss hs) 0 w (.returned (.tuple #[.slice (some ⟨go, 0, none⟩) j cp, zV 0])) wr) := by
          have hO := HA.out.1
          rw [List.take_of_length_le (by rw [uA_length]; exact Nat.le_refl _)] at hO
          exact ⟨_, rfl, by rw [uA_length]; exact own_low hO (HF0.out.trans HF1.out (fun _ _ e => e)).size, (HF0.out.trans HF1.out (fun _ _ e => e)).trans HA.out.2 (fun _ _ e => e)⟩
        clear HA HSh HHv
        go_wp2
        go_ret2
        exact HX.out
end Go.Proofs.Ytlepdogfgpeogaa
