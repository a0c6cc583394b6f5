/-
  For every two pairs of rows, all told of no more than 1048576 values, the statement VecDots answers true: awake does; Dot is the document's, the same the other way round, and goes on over what stands behind.
-/
import Derived.Test.YtjffiojjjmecgaaVce
import Derived.Test.YtjffiojjjmecgaaBulk1
import Derived.Lib.SmallJoins
namespace Go.Proofs.Ytjffiojjjmecgaa.Dots8
open Go.ChangeShapes Go.WideShapes Go.ChangeAt Go.RowKit Go.Lib Go.Maps Go.Joins

theorem own_ge {w : World} {base : Nat} {e : TypeId} {v : Value} {n : Nat} {xs : List Value} (h : w.ownsRow base e 1 v n xs) {k : Nat} (hk : v.ownBlock = some k) : base ≤ k := by
  rcases h.2 with ⟨rfl, _⟩ | ⟨g', cap', cur, hv, hb, _⟩
  · simp [Value.ownBlock] at hk
  · rw [hv] at hk; simp [Value.ownBlock] at hk; omega
/-- Two rows, one behind the other, in memory of one's own. -/
theorem both (w W : World) (hF : Fresh w W) (v0 : Value) (hown : W.ownsRow w.heap.size 49 1 v0 0 []) (av cv : Value) (A C : List Int) (hA : Rk .i8 (fun b => b < w.heap.size) w av A) (hC : Rk .i8 (fun b => b < w.heap.size) w cv C) (hl : A.length + C.length ≤ 140737488351232) :
    ∃ t1 W1 t2 W2, (Builtin.append_ #[22, 22] 22 #[v0, av]).run Try.prog W = .ok t1 W1 ∧ (Builtin.append_ #[22, 22] 22 #[t1, cv]).run Try.prog W1 = .ok t2 W2 ∧ Fresh w W2 ∧ W2.ownsRow w.heap.size 49 1 t2 (A.length + C.length) ((A ++ C).map (Value.int .i8)) := by
  obtain ⟨t1, W1, h1, h2, h3⟩ := twin ty8 22 W w.heap.size v0 [] hown hF.size av A _ (hA.fresh hF) (by simp [kb]; omega)
  have hF1 : Fresh w W1 := hF.grown h3 (fun k hk e => by have := own_ge hown e; omega)
  simp only [List.length_nil, Nat.zero_add, List.nil_append] at h2
  obtain ⟨t2, W2, k1, k2, k3⟩ := twin ty8 22 W1 w.heap.size t1 A h2 hF1.size cv C _ (hC.fresh hF1) (by simp [kb]; omega)
  have hF2 : Fresh w W2 := hF1.grown k3 (fun k hk e => by have := own_ge h2 e; omega)
  exact ⟨t1, W1, t2, W2, h1, k1, hF2, k2⟩

/-- The same behind a row that stays. -/
theorem both2 (w W2 : World) (f2 : Fresh w W2) (t2 : Value) (L : List Value) {n : Nat} (o2 : W2.ownsRow w.heap.size 49 1 t2 n L) (W : World) (hF : Fresh W2 W) (v0 : Value) (hown : W.ownsRow w.heap.size 49 1 v0 0 []) (hown2 : W.ownsRow W2.heap.size 49 1 v0 0 []) (av cv : Value) (A C : List Int) (hA : Rk .i8 (fun b => b < w.heap.size) w av A) (hC : Rk .i8 (fun b => b < w.heap.size) w cv C) (hl : A.length + C.length ≤ 140737488351232) :
    ∃ t3 W3 t4 W4, (Builtin.append_ #[22, 22] 22 #[v0, av]).run Try.prog W = .ok t3 W3 ∧ (Builtin.append_ #[22, 22] 22 #[t3, cv]).run Try.prog W3 = .ok t4 W4 ∧ Fresh w W4 ∧ W4.ownsRow w.heap.size 49 1 t2 n L ∧ W4.ownsRow w.heap.size 49 1 t4 (A.length + C.length) ((A ++ C).map (Value.int .i8)) := by
  have _ := hown
  obtain ⟨t3, W3, t4, W4, e3, e4, f4, o4⟩ := both W2 W hF v0 hown2 av cv A C (hA.fresh f2 |>.mono (fun b hb => Nat.lt_of_lt_of_le hb f2.size)) (hC.fresh f2 |>.mono (fun b hb => Nat.lt_of_lt_of_le hb f2.size)) hl
  exact ⟨t3, W3, t4, W4, e3, e4, f2.trans f4 (fun _ _ e => e), owns_kept o2 f4 (fun _ _ e => e), own_low o4 f2.size⟩

set_option maxHeartbeats 8000000 in
set_option maxRecDepth 100000 in
theorem walk (av bv cv dv : Value) (A B C D : List Int) (w : World) (hA : Rk .i8 (fun b => b < w.heap.size) w av A) (hB : Rk .i8 (fun b => b < w.heap.size) w bv B) (hC : Rk .i8 (fun b => b < w.heap.size) w cv C) (hD : Rk .i8 (fun b => b < w.heap.size) w dv D)
    (h1 : A.length + C.length ≤ 140737488351232) (h2 : B.length + D.length ≤ 140737488351232) :
    Calls Try.prog 3 #[.agg #[av, bv], .agg #[cv, dv]] w fun e w' => e = .returned (.bool true) ∧ Fresh w w' := by
  have HAW : Hid (∀ W : World, _) := fun (W : World) => awake_any W
  have HR : Hid (∀ W, Fresh w W → Rk .i8 (fun b => b < w.heap.size) W av A ∧ Rk .i8 (fun b => b < w.heap.size) W bv B ∧ Rk .i8 (fun b => b < w.heap.size) W cv C ∧ Rk .i8 (fun b => b < w.heap.size) W dv D) := fun W hF => ⟨hA.fresh hF, hB.fresh hF, hC.fresh hF, hD.fresh hF⟩
  obtain ⟨W0, hW0⟩ : ∃ W0, W0 = (w.alloc (.cells #[av, bv] 24)).alloc (.cells #[cv, dv] 24) := ⟨_, rfl⟩
  have HF0 : Hid (Fresh w W0) := by show Fresh _ _; rw [hW0]; exact ((Kept.refl _ w).alloc _).alloc _
  have p1 : W0.heap[w.heap.size]? = some (.cells #[av, bv] 24 (0, 0)) := by rw [hW0]; exact (Below.heap_alloc _ _ _ (by simp)).trans (heap_alloc_new w _)
  have p2 : W0.heap[w.heap.size + 1]? = some (.cells #[cv, dv] 24 (0, 0)) := by
    rw [hW0]
    have := heap_alloc_new (w.alloc (.cells #[av, bv] 24)) (.cells #[cv, dv] 24)
    rwa [World.size_alloc] at this
  have HP : Hid (∀ W, Fresh W0 W → W.cell? ⟨w.heap.size, 0, none⟩ = some av ∧ W.cell? ⟨w.heap.size, 1, none⟩ = some bv ∧ W.cell? ⟨w.heap.size + 1, 0, none⟩ = some cv ∧ W.cell? ⟨w.heap.size + 1, 1, none⟩ = some dv) := fun W hF => by
    have q1 := hF.at p1 (fun e => e)
    have q2 := hF.at p2 (fun e => e)
    exact ⟨by rw [Lib.cell_of_heap q1]; rfl, by rw [Lib.cell_of_heap q1]; rfl, by rw [Lib.cell_of_heap q2]; rfl, by rw [Lib.cell_of_heap q2]; rfl⟩
  have HBoth : Hid (∀ (W : World), Fresh w W → ∃ t1 W1 t2 W2 t3 W3 t4 W4, (Builtin.append_ #[22, 22] 22 #[.slice (some ⟨W.heap.size, 0, none⟩) 0 0, av]).run Try.prog (W.alloc (.cells #[] 49)) = .ok t1 W1 ∧ (Builtin.append_ #[22, 22] 22 #[t1, cv]).run Try.prog W1 = .ok t2 W2 ∧
      (Builtin.append_ #[22, 22] 22 #[.slice (some ⟨W2.heap.size, 0, none⟩) 0 0, bv]).run Try.prog (W2.alloc (.cells #[] 49)) = .ok t3 W3 ∧ (Builtin.append_ #[22, 22] 22 #[t3, dv]).run Try.prog W3 = .ok t4 W4 ∧ Fresh w W4 ∧
      Calls Try.prog 10 #[t2, t4] W4 fun e w' => e = .returned (.tuple #[zV (dV (A ++ C) (B ++ D)), zV (dE (A ++ C) (B ++ D))]) ∧ w' = W4) := fun W hF => by
    obtain ⟨t1, W1, t2, W2, e1, e2, f2, o2⟩ := both w (W.alloc (.cells #[] 49)) (hF.alloc _) _ (own_empty W _ hF.size _) av cv A C hA hC h1
    obtain ⟨t3, W3, t4, W4, e3, e4, f4, o4⟩ := both2 w W2 f2 t2 _ o2 (W2.alloc (.cells #[] 49)) ((Kept.refl _ _).alloc _) _ (own_empty W2 _ f2.size _) (own_empty W2 _ (Nat.le_refl _) _) bv dv B D hB hD h2
    have r2 := rk_of_own o4.1 (by simp [kb]; omega) (fun z hz => by rcases List.mem_append.1 hz with e | e; exact hA.all z e; exact hC.all z e)
    have r4 := rk_of_own o4.2 (by simp [kb]; omega) (fun z hz => by rcases List.mem_append.1 hz with e | e; exact hB.all z e; exact hD.all z e)
    exact ⟨t1, W1, t2, W2, t3, W3, t4, W4, e1, e2, e3, e4, f4, Dot_any _ _ _ _ _ _ W4 r2 r4⟩
  have HV : Hid ((A.length ≤ 1048576 → dE A B = 0 → -17179869184 ≤ dV A B ∧ dV A B ≤ 17179869184) ∧ (C.length ≤ 1048576 → dE C D = 0 → -17179869184 ≤ dV C D ∧ dV C D ≤ 17179869184)) := by
    refine ⟨fun h h0 => ?_, fun h h0 => ?_⟩
    · rw [dV_ok h0]; have := dotN_bound A B hA.all hB.all; omega
    · rw [dV_ok h0]; have := dotN_bound C D hC.all hD.all; omega
  have hla := hA.many
  have hlc := hC.many
  obtain ⟨ao, ac, hva, _⟩ := hA.shape
  obtain ⟨co, cc, hvc, _⟩ := hC.shape
  have HVA : Hid (av = .slice ao A.length ac ∧ cv = .slice co C.length cc) := ⟨hva, hvc⟩
  clear hva hvc
  clear hA hB hC hD p1 p2
  go_enter Try.func3, Try.ntmps3
  go_wp2_with fail
  rw [← hW0]
  refine (HAW.out _).mono ?_
  rintro e w1 ⟨rfl, hF1⟩
  have HF1 : Hid (Fresh W0 w1) := hF1
  obtain ⟨c1, c2, c3, c4⟩ := HP.out w1 hF1
  clear hW0 HAW hF1 HP
  go_wp2_with fail
  go_quiet (fail)
  have HF2 : Hid (Fresh w (w1.drewN nq)) := HF0.out.trans (HF1.out.drewN nq) (fun _ _ e => e)
  clear c1 c2 c3 c4 HF1 HF0
  generalize w1.drewN nq = w2 at *
  have HD1 : Hid (Unit → _) := fun (_ : Unit) => Dot_any _ _ _ _ _ _ w2 (HR.out w2 HF2.out).1 (HR.out w2 HF2.out).2.1
  have HD2 : Hid (Unit → _) := fun (_ : Unit) => refDot_any _ _ _ _ _ _ w2 (HR.out w2 HF2.out).1 (HR.out w2 HF2.out).2.1
  go_wp2_with fail
  refine (HD1.out ()).mono ?_
  rintro e w3 ⟨rfl, hw⟩
  have hw' := hw.symm
  subst hw'
  clear hw HD1
  go_wp2_with fail
  refine (HD2.out ()).mono ?_
  rintro e w4 ⟨rfl, n4, hw⟩
  have HF4 : Hid (Fresh w w4) := by show Fresh _ _; rw [hw]; exact HF2.out.drewN n4
  clear hw HD2 HF2
  have HD3 : Hid (Unit → _) := fun (_ : Unit) => Dot_any _ _ _ _ _ _ w4 (HR.out w4 HF4.out).2.1 (HR.out w4 HF4.out).1
  go_wp2_with fail
  refine (HD3.out ()).mono ?_
  rintro e w5 ⟨rfl, hw⟩
  have hw' := hw.symm
  subst hw'
  rw [dE_comm, dV_comm]
  clear hw HD3
  have HD4 : Hid (Unit → _) := fun (_ : Unit) => Dot_any _ _ _ _ _ _ w4 (HR.out w4 HF4.out).2.2.1 (HR.out w4 HF4.out).2.2.2
  go_wp2_with fail
  refine (HD4.out ()).mono ?_
  rintro e w6 ⟨rfl, hw⟩
  have hw' := hw.symm
  subst hw'
  clear hw HD4
  obtain ⟨t1, W1, t2, W2, t3, W3, t4, W4, e1, e2, e3, e4, f4, hd⟩ := HBoth.out w4 HF4.out
  have HD5 : Hid (Unit → _) := fun (_ : Unit) => hd
  have HF7 : Hid (Fresh w W4) := f4
  clear HBoth hd f4
  go_wp2_with (at_builtin; first | (refine Lib.wpList_append_run _ rfl _ _ _ _ rfl _ _ rfl rfl _ _ e1 ?_; clear e1) | (refine Lib.wpList_append_run _ rfl _ _ _ _ rfl _ _ rfl rfl _ _ e2 ?_; clear e2) | (refine Lib.wpList_append_run _ rfl _ _ _ _ rfl _ _ rfl rfl _ _ e3 ?_; clear e3) | (refine Lib.wpList_append_run _ rfl _ _ _ _ rfl _ _ rfl rfl _ _ e4 ?_; clear e4))
  refine (HD5.out ()).mono ?_
  rintro e w8 ⟨rfl, hw⟩
  have hw' := hw.symm
  subst hw'
  clear hw HD5 HR HF4
  rw [HVA.out.1, HVA.out.2]
  clear HVA
  by_cases q1 : dE A B = 0
  · by_cases q2 : dE C D = 0
    · by_cases q3 : 1048576 < A.length + C.length
      · have q3' : (1048576 : Int) < (A.length : Int) + (C.length : Int) := by omega
        rw [q1, q2]
        go_wp2
        go_ret
        exact ⟨by simp, HF7.out⟩
      · obtain ⟨u1, u2⟩ := dE_zero q1
        obtain ⟨u3, u4⟩ := dE_zero q2
        have q4 : dE (A ++ C) (B ++ D) = 0 := dE_ok (by simp; omega) (by simp; omega)
        have q5 : dV (A ++ C) (B ++ D) = dV A B + dV C D := by rw [dV_ok q4, dV_ok q1, dV_ok q2, dotN_append _ _ _ _ u2]
        have b1 := HV.out.1 u1 q1
        have b2 := HV.out.2 u3 q2
        have q3' : ¬ (1048576 : Int) < (A.length : Int) + (C.length : Int) := by omega
        rw [q1, q2, q4, q5]
        clear q4 q5 q1 q2
        generalize dV A B = x at *
        generalize dV C D = y at *
        clear u1 u2 u3 u4
        obtain ⟨b1, b1'⟩ := b1
        obtain ⟨b2, b2'⟩ := b2
        go_wp2
        go_ret
        exact ⟨by simp, HF7.out⟩
    · have q2' : (dE C D == 0) = false := by simp [q2]
      rw [q1]
      go_wp2
      go_ret
      exact ⟨by simp, HF7.out⟩
  · have q1' : (dE A B == 0) = false := by simp [q1]
    go_wp2
    go_ret
    exact ⟨by simp, HF7.out⟩

set_option maxRecDepth 100000 in
theorem contract (H : Type) (enc : TypeId × Value → H) (W : World) (base : Nat) (args : Array Value) (ds gs : List (DataW H)) (before : List MemPlace)
    (hval : ∀ (j : Nat) t v, Try.f3.params[j]? = some t → args[j]? = some v → Value.okWide Try.prog W .any base t v)
    (hW : DataW.Whole enc Try.prog Try.f3.params.toList Rows.vecDotsSpec.vars false W args.toList ds gs before) (hbk : Rows.uptoSmall H (ds ++ gs) = true)
    (hsz : (DataW.weightsEach Try.prog (Try.f3.params.toList ++ []) (ds ++ gs)).all (· ≤ reachBytes) = true) (hL : laidMetH Try.prog Rows.vecDotsRow.laid W) :
    Calls Try.prog 3 args W fun e W' => ∃ v, e = .returned v ∧ Rows.vecDotsSpec.post enc Try.prog Try.f3 false true false false W args v W' := by
  have hW' := hW
  obtain ⟨p, q, hA0, hV, rfl, hfz, hnd⟩ := hW
  have hA : DataW.TrodAll enc Try.prog W 0 (fun _ => true) true Try.f3.params.toList args.toList ds p := hA0
  rw [Try.params3] at hA hval hsz
  obtain ⟨rfl, rfl⟩ := trodVars_none hV
  have _hL := hL
  obtain ⟨v0, v1, d0, d1, p0, p1, rfl, rfl, rfl, h0, h1⟩ := trodAll_two hA
  obtain ⟨a0, a1, y0, y1, n0, rfl, rfl, rfl, q0, q1⟩ := open_agg2 Try.underlying24 (by kernel_rfl) (by kernel_rfl) (hval 0 24 v0 rfl rfl) h0
  obtain ⟨b0, b1, z0, z1, n1, rfl, rfl, rfl, r0, r1⟩ := open_agg2 Try.underlying24 (by kernel_rfl) (by kernel_rfl) (hval 1 24 v1 rfl rfl) h1
  have hbd := bulk_le hbk
  simp only [List.append_nil, Rows.uptoBulkAll, Rows.uptoBulk] at hbd
  have hs : ∀ (y : DataW H × List MemPlace), Rows.uptoBulk y.1 ≤ 1048576 → ∀ es sp, y.1 = .slice es sp → es.length * kb .i8 ≤ 140737488351232 := fun y hy es sp e => by
    rw [e] at hy
    simp only [Rows.uptoBulk] at hy
    have := bulk_length es
    simp [kb]
    omega
  have hb : ∀ (y : DataW H × List MemPlace) (zs : List Int), Rows.uptoBulk y.1 ≤ 1048576 → (y.1 = .nil ∧ zs = [] ∨ ∃ sp, y.1 = .slice (lits .i8 zs) sp) → zs.length ≤ 1048576 := fun y zs hy h => by
    rcases h with ⟨_, rfl⟩ | ⟨sp, e⟩
    · simp
    · rw [e] at hy
      simp only [Rows.uptoBulk] at hy
      have h1 := bulk_length (lits (H := H) .i8 zs)
      simp only [lits, List.length_map] at h1 hy
      omega
  obtain ⟨A, hA1, hA2⟩ := row_of ty8 (x := y0) q0 (hs y0 (by omega))
  obtain ⟨B, hB1, hB2⟩ := row_of ty8 (x := y1) q1 (hs y1 (by omega))
  obtain ⟨C, hC1, hC2⟩ := row_of ty8 (x := z0) r0 (hs z0 (by omega))
  obtain ⟨D, hD1, hD2⟩ := row_of ty8 (x := z1) r1 (hs z1 (by omega))
  have l0 := hb y0 A (by omega) hA2
  have l1 := hb y1 B (by omega) hB2
  have l2 := hb z0 C (by omega) hC2
  have l3 := hb z1 D (by omega) hD2
  refine (walk _ _ _ _ A B C D W hA1 hB1 hC1 hD1 (by omega) (by omega)).mono fun e W' ⟨he, hk⟩ => ?_
  subst he
  exact ⟨_, rfl, post_law rfl (by kernel_rfl) (by kernel_rfl) hW' rfl hk⟩

set_option maxRecDepth 100000 in
theorem laid_met (os : Os) : laidMet Try.prog Rows.vecDotsUptoRow.laid ((layIn (World.holding Try.prog os ⟨#[], #[], []⟩)).forCall (fun _ _ => 0) ⟨#[], #[.agg #[.slice none 0 0, .slice none 0 0], .agg #[.slice none 0 0, .slice none 0 0]], []⟩).memory :=
  laidMet_of_run' 8 (by kernel_rfl) (by kernel_rfl)
set_option maxRecDepth 100000 in
theorem reads (os : Os) {H : Type} (enc : TypeId × Value → H) : ∃ places, DataW.whole enc Try.prog ((layIn (World.holding Try.prog os ⟨#[], #[], []⟩)).forCall (fun _ _ => 0) ⟨#[], #[.agg #[.slice none 0 0, .slice none 0 0], .agg #[.slice none 0 0, .slice none 0 0]], []⟩).memory Try.f3.params.toList Rows.vecDotsSpec.vars false (#[.agg #[.slice none 0 0, .slice none 0 0], .agg #[.slice none 0 0, .slice none 0 0]] : Array Value).toList 8 = some ([.agg [.nil, .nil], .agg [.nil, .nil]], [], places) :=
  ⟨[], by kernel_rfl⟩

set_option maxRecDepth 100000 in
theorem lifted (os : Os) (started : os.Started) (H : Type) (enc : TypeId × Value → H) (F : Stop.Interp) :
    ReturnsInHanded {} Try.checked os 3 .any ((Rows.OpenSpec.upto Rows.vecDotsSpec).preRow enc Try.prog Try.f3 Rows.vecDotsUptoRow.domain false Rows.vecDotsUptoRow.laid) (((Rows.OpenSpec.upto Rows.vecDotsSpec).at F).post enc Try.prog Try.f3 false true false false) := by
  obtain ⟨places, hx⟩ := reads os enc
  refine returnsInHanded_of_row (C := Try.checked) (s := Rows.OpenSpec.upto Rows.vecDotsSpec) Try.own started (by kernel_rfl) Try.func3
    (witness_row_at (enc := enc) (C := Try.checked) false (layIn (World.holding Try.prog os ⟨#[], #[], []⟩)) #[.agg #[.slice none 0 0, .slice none 0 0], .agg #[.slice none 0 0, .slice none 0 0]] rfl (by kernel_rfl) (by kernel_rfl) (by kernel_rfl)
      (OpenSpec.preRow_of_cond 8 hx (by kernel_rfl) (fun k hk => by cases hk; kernel_rfl) (by kernel_rfl) (laid_met os))) ?_
  intro W base args ds gs before hval hW _ hc hsz hL _ _
  exact contract H enc W base args ds gs before hval hW (hc _ rfl) hsz hL

theorem said : Rows.VecDotsUptoSaid :=
  OpenClaim.holds_of_cond 3 Try.f3 rfl rfl rfl rfl rfl rfl rfl ⟨rfl, rfl, rfl, rfl, rfl⟩ rfl rfl rfl rfl rfl (by kernel_rfl) Try.func3 (by kernel_rfl)
    (of_decide_eq_true (by kernel_rfl)) (by unfold Func.isWrapper; first | (rw [if_pos (by decide +kernel)]; kernel_rfl) | (rw [if_neg (by decide +kernel)]; exact ⟨rfl, rfl⟩))
    (fun os started H enc _ F => by rw [OpenClaim.pre_eq_preRow]; exact lifted os started H enc F)


end Go.Proofs.Ytjffiojjjmecgaa.Dots8
namespace Go.Proofs.Ytjffiojjjmecgaa
theorem vecDots_upto_holds : Rows.VecDotsUptoSaid := Dots8.said
end Go.Proofs.Ytjffiojjjmecgaa
