/-
  Two rows joined: the contract of join[int].
-/
import Derived.Test.YtgemkmpepnaoiabRkN
import Derived.Test.YtgemkmpepnaoiabBase
import Derived.Test.YtgemkmpepnaoiabChecked
import Derived.Maps.AppendAt
import Derived.Deep.AppendSrc
import Derived.Lib.AppendZeros
import Derived.BigQuiet
import Derived.Deep.RegionHeld3
import Derived.Deep.RegionLaw
import Derived.Deep.Light
namespace Go.Proofs.Ytgemkmpepnaoiab
open Go.RowKit Go.Lib Go.Maps

abbrev zV (z : Int) : Value := .int .i64 z
def lenV : Value → Nat
  | .slice _ n _ => n
  | _ => 0
theorem Try.infoI : (Try.prog.info? 3).map (fun i => (i.zero, i.size, i.bytes)) = some (some (.int .i64 0), 1, 8) := by kernel_rfl
theorem step_append_run {P : Program} {ops : Array Oper} {o : Oper} {a : Act} {w : World} {K : Act → World → Prop} {Q : Exit → Act → World → Prop} {E : Prop} (hgd : o.guard = none) (s x : Operand) (t tn : TypeId)
    (ho : o.op = .call { callee := .builtin .append, args := #[s, x], argTypes := #[t, tn] }) (vs vx : Value) (hs : a.eval s = vs) (hx : a.eval x = vx)
    (v' : Value) (w' : World) (hr : (Builtin.append_ #[t, tn] o.type #[vs, vx]).run P w = .ok v' w') (h : K (a.put o.dst v') w') :
    if Region.wanted o (yielded ops a.tmps) = true then Oper.wp P o a w K Q else E := by
  have hw : Region.wanted o (yielded ops a.tmps) = true := by simp [Region.wanted, hgd]
  rw [if_pos hw]
  exact wp_append_run w s x t tn ho vs vx hs hx v' w' hr h

/-- A comparison that is handed in: what it may answer (R), of which numbers it may be asked (D), which blocks it may write (T, all ahead of n0), and what must be for it to be asked (J: stays, whatever is done from n0 on). -/
structure Ask (F : Nat) (caps : Array Value) (D : Int → Prop) (R : Int → Int → Bool → Prop) (T : Nat → Prop) (n0 : Nat) (J : World → Prop) : Prop where
  enters : ∀ (args : Array Value) (X : World), (callFunc F args).run Try.prog X = .ok (.enter F args) X
  asks : ∀ X i j, J X → D i → D j → Calls Try.prog F (#[zV i, zV j] ++ caps) X fun e X' => ∃ b, e = .returned (.bool b) ∧ R i j b ∧ J X' ∧ Kept T X X'
  kept : ∀ X X', J X → Kept (fun k => n0 ≤ k) X X' → J X'
  ahead : ∀ k, T k → k < n0

theorem wrap_plus' (p l : Int) : wrap64 (wrap64 p + l) = wrap64 (p + l) := by
  unfold wrap64; omega

set_option maxHeartbeats 2000000 in
set_option maxRecDepth 100000 in
theorem join_any {F : Nat} {caps : Array Value} {D : Int → Prop} {R : Int → Int → Bool → Prop} {T : Nat → Prop} {n0 : Nat} {J : World → Prop} (hA : Ask F caps D R T n0 J)
    (g N ob oa ca oc cc : Nat) (A B : List Int) (w : World) (hJ : J w) (hg : n0 ≤ g) (ho : n0 ≤ ob) (hgo : g ≠ ob) (hol : ob < w.heap.size)
    (hr : w.ownsRow 0 3 1 (.slice (some ⟨g, 0, none⟩) 0 N) 0 []) (hN : A.length + B.length ≤ N) (hca : A.length ≤ ca) (hcc : B.length ≤ cc)
    (hcA : ∀ i z, A[i]? = some z → w.cell? ⟨ob, oa + i, none⟩ = some (zV z)) (hcB : ∀ i z, B[i]? = some z → w.cell? ⟨ob, oc + i, none⟩ = some (zV z)) (hD : ∀ z, z ∈ A ∨ z ∈ B → D z) :
    Calls Try.prog 53 #[.slice (some ⟨g, 0, none⟩) 0 N, .slice (some ⟨ob, oa, none⟩) A.length ca, .slice (some ⟨ob, oc, none⟩) B.length cc, .func (.func F) #[] caps] w fun e w' =>
      ∃ o n, e = .returned (.tuple #[.slice (some ⟨g, 0, none⟩) o.length N, zV (wrap64 (n : Nat))]) ∧ Mj R A B o n ∧ w'.ownsRow 0 3 1 (.slice (some ⟨g, 0, none⟩) o.length N) o.length (o.map zV) ∧ J w' ∧ Kept (fun k => k = g ∨ T k) w w' := by
  have hE := hA.enters
  obtain ⟨i0, hi, hz0, hz1, hz2⟩ := info_parts Try.infoI
  have hgT : ¬ T g := fun h => by have := hA.ahead g h; omega
  have hoT : ¬ T ob := fun h => by have := hA.ahead ob h; omega
  have HA : Hid (Unit → _) := fun (_ : Unit) => hA
  clear hA
  go_enter Try.func53, Try.ntmps53
  go_wp2_with fail
  go_loopw [0, 1, 2, 10] (fun r f k p wr => ∃ (P A' B' : List Int) (q oa' ca' oc' cc' : Nat), r = .slice (some ⟨g, 0, none⟩) P.length N ∧ f = .slice (some ⟨ob, oa', none⟩) A'.length ca' ∧ k = .slice (some ⟨ob, oc', none⟩) B'.length cc' ∧ p = zV (wrap64 (q : Nat)) ∧ (∀ o n, Mj R A' B' o n → Mj R A B (P ++ o) (q + n))
      ∧ P.length + A'.length + B'.length = A.length + B.length ∧ A'.length ≤ ca' ∧ B'.length ≤ cc' ∧ wr.ownsRow 0 3 1 (.slice (some ⟨g, 0, none⟩) P.length N) P.length (P.map zV) ∧ J wr ∧ Kept (fun k => k = g ∨ T k) w wr
      ∧ (∀ i z, A'[i]? = some z → w.cell? ⟨ob, oa' + i, none⟩ = some (zV z)) ∧ (∀ i z, B'[i]? = some z → w.cell? ⟨ob, oc' + i, none⟩ = some (zV z)) ∧ (∀ z, z ∈ A' ∨ z ∈ B' → D z)) (fun r f k p _ => lenV f + lenV k)
  case atStart => exact ⟨[], A, B, 0, oa, ca, oc, cc, rfl, rfl, rfl, congrArg zV (by unfold wrap64; omega), fun o n h => by simpa using h, by simp, hca, hcc, hr, hJ, Kept.refl _ _, hcA, hcB, hD⟩
  case round =>
    obtain ⟨P, A', B', q, oa', ca', oc', cc', rfl, rfl, rfl, rfl, hmj, hlen, hca', hcc', hown, hJr, hK, hcA', hcB', hD'⟩ := hrel
    have cellO : ∀ i, wr.cell? ⟨ob, i, none⟩ = w.cell? ⟨ob, i, none⟩ := fun i => hK.cell (p := ⟨ob, i, none⟩) hol (fun h => h.elim (fun e => hgo e.symm) hoT)
    have HM := show Hid _ from hmj
    clear hmj
    have HEnd : Hid (A' = [] ∨ B' = [] → ∃ w1 w2, (Builtin.append_ #[32, 32] 32 #[.slice (some ⟨g, 0, none⟩) P.length N, .slice (some ⟨ob, oa', none⟩) A'.length ca']).run Try.prog wr = .ok (.slice (some ⟨g, 0, none⟩) (P.length + A'.length) N) w1 ∧ (Builtin.append_ #[32, 32] 32 #[.slice (some ⟨g, 0, none⟩) (P.length + A'.length) N, .slice (some ⟨ob, oc', none⟩) B'.length cc']).run Try.prog w1 = .ok (.slice (some ⟨g, 0, none⟩) (P.length + A'.length + B'.length) N) w2 ∧
        Mj R A B (P ++ (A' ++ B')) q ∧ w2.ownsRow 0 3 1 (.slice (some ⟨g, 0, none⟩) (P ++ (A' ++ B')).length N) (P ++ (A' ++ B')).length ((P ++ (A' ++ B')).map zV) ∧ J w2 ∧ Kept (fun k => k = g ∨ T k) w w2) := fun hend => by
      have hgl : g < wr.heap.size := owns_lt hown (by simp [Value.ownBlock])
      obtain ⟨w1, hr1, ho1, hg1⟩ := run_append_fits (P := Try.prog) wr 0 32 32 3 i0 1 Try.underlying32 hi hz1 g P.length N (P.map zV) hown ⟨ob, oa', none⟩ A'.length ca' (A'.map zV) (by simp) (fun j u hj => by
        rw [List.getElem?_map] at hj
        obtain ⟨z, hz, rfl⟩ := Option.map_eq_some_iff.1 hj
        rw [Addr.add_lit, cellO]
        exact hcA' j z hz) (fun u hu => by obtain ⟨_, _, rfl⟩ := List.mem_map.1 hu; rfl) (by omega)
      have hol1 : ob < wr.heap.size := Nat.lt_of_lt_of_le hol hK.size
      obtain ⟨w2, hr2, ho2, hg2⟩ := run_append_fits (P := Try.prog) w1 0 32 32 3 i0 1 Try.underlying32 hi hz1 g (P.length + A'.length) N (P.map zV ++ A'.map zV) ho1 ⟨ob, oc', none⟩ B'.length cc' (B'.map zV) (by simp) (fun j u hj => by
        rw [List.getElem?_map] at hj
        obtain ⟨z, hz, rfl⟩ := Option.map_eq_some_iff.1 hj
        rw [Addr.add_lit, hg1.cell_far ⟨ob, oc' + j, none⟩ hol1 (fun e => by simp at e; exact hgo e.symm), cellO]
        exact hcB' j z hz) (fun u hu => by obtain ⟨_, _, rfl⟩ := List.mem_map.1 hu; rfl) (by omega)
      have hk1 : Kept (fun k => k = g) wr w1 := (Kept.refl _ wr).grown hg1 (fun k _ e => by simp at e; exact e.symm)
      have hk2 : Kept (fun k => k = g) wr w2 := hk1.grown hg2 (fun k _ e => by simp at e; exact e.symm)
      refine ⟨w1, w2, hr1, hr2, ?_, ?_, (HA.out ()).kept _ _ hJr (hk2.mono (fun i _ e => by rw [e]; exact hg)), hK.trans hk2 (fun _ _ e => .inl e)⟩
      · have h0 : Mj R A' B' (A' ++ B') 0 := by
          rcases hend with e | e
          · rw [e]; exact Mj.nilL _
          · rw [e, List.append_nil]; exact Mj.nilR _
        exact HM.out _ _ h0
      · rw [List.map_append, List.map_append, List.length_append, List.length_append, ← Nat.add_assoc, ← List.append_assoc]
        exact ho2
    by_cases hend : A' = [] ∨ B' = []
    · obtain ⟨w1, w2, hr1, hr2, hmj, ho2, hJ2, hK2⟩ := HEnd.out hend
      have HF : Hid (Mj R A B (P ++ (A' ++ B')) q ∧ w2.ownsRow 0 3 1 (.slice (some ⟨g, 0, none⟩) (P ++ (A' ++ B')).length N) (P ++ (A' ++ B')).length ((P ++ (A' ++ B')).map zV) ∧ J w2 ∧ Kept (fun k => k = g ∨ T k) w w2) := ⟨hmj, ho2, hJ2, hK2⟩
      have HL : Hid ((P ++ (A' ++ B')).length = P.length + A'.length + B'.length) := by show _ = _; simp [Nat.add_assoc]
      clear HEnd hmj ho2 hJ2 hK2 hown hJr hK cellO hcA' hcB' hD' hcA hcB hr HM
      have hend' : A'.length = 0 ∨ B'.length = 0 := hend.elim (fun e => .inl (by rw [e]; rfl)) (fun e => .inr (by rw [e]; rfl))
      clear hlen hca' hcc' hend
      generalize A'.length = la at *
      generalize B'.length = lb at *
      by_cases hA0 : la = 0
      · subst hA0
        rw [Nat.add_zero] at hr1 hr2
        have HL' : Hid ((P ++ (A' ++ B')).length = P.length + lb) := HL.out
        clear HL hend'
        go_wp2_with (at_builtin; first | (refine Lib.wpList_append_run _ rfl _ _ _ _ rfl _ _ rfl rfl _ _ hr1 ?_; clear hr1) | (refine Lib.wpList_append_run _ rfl _ _ _ _ rfl _ _ rfl rfl _ _ hr2 ?_))
        go_ret2
        exact ⟨P ++ (A' ++ B'), q, by rw [HL'.out]; rfl, HF.out⟩
      · obtain rfl : lb = 0 := by omega
        rw [Nat.add_zero] at hr2
        have HL' : Hid ((P ++ (A' ++ B')).length = P.length + la) := HL.out
        have hA1 : 0 < la := by omega
        clear HL hend'
        go_wp2_with (at_builtin; first | (refine Lib.wpList_append_run _ rfl _ _ _ _ rfl _ _ rfl rfl _ _ hr1 ?_; clear hr1) | (refine Lib.wpList_append_run _ rfl _ _ _ _ rfl _ _ rfl rfl _ _ hr2 ?_))
        go_ret2
        exact ⟨P ++ (A' ++ B'), q, by rw [HL'.out]; rfl, HF.out⟩
    clear HEnd
    rcases A' with _ | ⟨x, A1⟩
    · exact absurd (Or.inl rfl) hend
    · rcases B' with _ | ⟨y, B1⟩
      · exact absurd (Or.inr rfl) hend
      · have cx : wr.cell? ⟨ob, oa', none⟩ = some (zV x) := by rw [cellO]; exact hcA' 0 x rfl
        have cy : wr.cell? ⟨ob, oc', none⟩ = some (zV y) := by rw [cellO]; exact hcB' 0 y rfl
        have hask := (HA.out ()).asks
        have hDx := hD' x (.inl List.mem_cons_self)
        have hDy := hD' y (.inr List.mem_cons_self)
        go_wp2_with fail
        have hask' := hask wr.drew y x ((HA.out ()).kept _ _ hJr (Kept.refl _ _).drew) hDy hDx
        go_region_held3 (fun X => X.cell? ⟨ob, oa', none⟩ = some (zV x) ∧ X.cell? ⟨ob, oc', none⟩ = some (zV y) ∧ J X ∧ Kept T wr X) (first | exact ⟨cx, cy, (HA.out ()).kept _ _ hJr (Kept.refl _ _).drew, (Kept.refl _ _).drew⟩ | exact hS' | assumption) (first | ((with_reducible refine hask'.mono ?_); rintro e X' ⟨bb, rfl, hRb, hJb, hKb⟩; have hS' : X'.cell? ⟨ob, oa', none⟩ = some (zV x) ∧ X'.cell? ⟨ob, oc', none⟩ = some (zV y) ∧ J X' ∧ Kept T wr X' := ⟨(hKb.cell (p := ⟨ob, oa', none⟩) (by have := hK.size; simp; omega) hoT).trans cx, (hKb.cell (p := ⟨ob, oc', none⟩) (by have := hK.size; simp; omega) hoT).trans cy, hJb, (Kept.undrew hKb)⟩))
        have hKX : Kept (fun k => k = g ∨ T k) w X' := hK.trans hS'.2.2.2 (fun _ _ h => .inr h)
        have hJX : J X' := hS'.2.2.1
        have hcy : X'.cell? ⟨ob, oc', none⟩ = some (zV y) := hS'.2.1
        have hcx : X'.cell? ⟨ob, oa', none⟩ = some (zV x) := hS'.1
        have hownX : X'.ownsRow 0 3 1 (.slice (some ⟨g, 0, none⟩) P.length N) P.length (P.map zV) := owns_kept hown hS'.2.2.2 (fun k e => by simp [Value.ownBlock] at e; subst e; exact hgT)
        have hgX : g < X'.heap.size := owns_lt hownX (by simp [Value.ownBlock])
        clear hS' hKb hJb cx cy hown hJr hK cellO hask hask' hcA hcB
        have hlen' : P.length + A1.length + B1.length + 2 = A.length + B.length := by simp only [List.length_cons] at hlen; omega
        simp only [List.length_cons] at hca' hcc'
        cases bb with
        | true =>
          have hY : (X'.alloc (.cells #[zV y] 3)).drew.ownsRow 0 3 1 (.slice (some ⟨g, 0, none⟩) P.length N) P.length (P.map zV) := owns_kept hownX (((Kept.refl (fun _ => False) X').alloc _).drew) (fun _ _ e => e)
          obtain ⟨w2, hrun, hown2, hgrow⟩ := run_append_fits (P := Try.prog) (X'.alloc (.cells #[zV y] 3)).drew 0 32 32 3 i0 1 Try.underlying32 hi hz1 g P.length N (P.map zV) hY ⟨X'.heap.size, 0, none⟩ 1 1 [zV y] rfl (fun j u hj => cell_one_new X' (zV y) 3 j u hj) (fun u hu => by simp at hu; subst hu; rfl) (by omega)
          have HR2 : Hid (w2.ownsRow 0 3 1 (.slice (some ⟨g, 0, none⟩) (P ++ [y]).length N) (P ++ [y]).length ((P ++ [y]).map zV)) := by
            rw [List.length_append, List.map_append]; exact hown2
          have HJ2 : Hid (J w2) := (HA.out ()).kept _ _ hJX ⟨hgrow.os, hgrow.tape, hgrow.output, Nat.le_trans (by simp) hgrow.size, fun k hk hn => (hgrow.block k (by simp; omega) (fun e => by simp at e; omega)).trans (Below.heap_alloc X' _ k hk)⟩
          have HK2 : Hid (Kept (fun k => k = g ∨ T k) w w2) := (((hKX.alloc (.cells #[zV y] 3)).drew).grown hgrow (fun k _ e => by simp at e; exact .inl e.symm))
          have HMB : Hid (∀ o n, Mj R (x :: A1) B1 o n → Mj R A B ((P ++ [y]) ++ o) ((q + (A1.length + 1)) + n)) := fun o n h => by
            have := HM.out _ _ (Mj.back hRb h)
            simpa [Nat.add_assoc] using this
          have q1 : (1 : Int) ≤ (B1.length : Int) + 1 := by omega
          have HRow : Hid ((∀ i z, (x :: A1)[i]? = some z → w.cell? ⟨ob, oa' + i, none⟩ = some (zV z)) ∧ (∀ i z, B1[i]? = some z → w.cell? ⟨ob, oc' + 1 + i, none⟩ = some (zV z)) ∧ (∀ z, z ∈ (x :: A1) ∨ z ∈ B1 → D z)) :=
            ⟨hcA', fun i z h => by have := hcB' (i + 1) z (by simpa using h); rwa [show oc' + (i + 1) = oc' + 1 + i by omega] at this, fun z h => hD' z (h.elim (fun h => .inl h) (fun h => .inr (List.mem_cons_of_mem _ h)))⟩
          clear hcA' hcB' hD' hDx hDy HM hownX hY hown2 hgrow hKX hJX hN hr
          by_cases hc1 : cc' = 1
          · have HB1 : Hid (B1 = []) := List.eq_nil_of_length_eq_zero (by omega)
            go_wp2_with fail
            go_region_law (first | (refine step_append_run rfl _ _ _ _ rfl _ _ (by rfl) (by rfl) _ _ hrun ?_))
            all_goals
              go_wp2
              go_roundw
              case rel => exact ⟨P ++ [y], (x :: A1), B1, (q + (A1.length + 1)), oa', ca', oc', 0, by simp, by simp, by simp, (by rw [show ((q + (A1.length + 1) : Nat) : Int) = (q : Int) + ((A1.length : Int) + 1) by omega]; exact congrArg zV (wrap_plus' _ _)), HMB.out, (by simp only [List.length_append, List.length_cons, List.length_nil]; omega), (by first | omega | (simp only [List.length_cons]; omega)), (by first | omega | (simp only [List.length_cons]; omega)), HR2.out, HJ2.out, HK2.out, HRow.out.1, (fun i z h => by rw [HB1.out] at h; simp at h), HRow.out.2.2⟩
              case measure => simp [lenV]
          · go_wp2_with fail
            go_region_law (first | (refine step_append_run rfl _ _ _ _ rfl _ _ (by rfl) (by rfl) _ _ hrun ?_))
            all_goals
              go_wp2
              go_roundw
              case rel => exact ⟨P ++ [y], (x :: A1), B1, (q + (A1.length + 1)), oa', ca', oc' + 1, cc' - 1, by simp, by simp, by simp, (by rw [show ((q + (A1.length + 1) : Nat) : Int) = (q : Int) + ((A1.length : Int) + 1) by omega]; exact congrArg zV (wrap_plus' _ _)), HMB.out, (by simp only [List.length_append, List.length_cons, List.length_nil]; omega), (by first | omega | (simp only [List.length_cons]; omega)), (by first | omega | (simp only [List.length_cons]; omega)), HR2.out, HJ2.out, HK2.out, HRow.out⟩
              case measure => simp [lenV]
        | false =>
          have hY : (X'.alloc (.cells #[zV x] 3)).drew.ownsRow 0 3 1 (.slice (some ⟨g, 0, none⟩) P.length N) P.length (P.map zV) := owns_kept hownX (((Kept.refl (fun _ => False) X').alloc _).drew) (fun _ _ e => e)
          obtain ⟨w2, hrun, hown2, hgrow⟩ := run_append_fits (P := Try.prog) (X'.alloc (.cells #[zV x] 3)).drew 0 32 32 3 i0 1 Try.underlying32 hi hz1 g P.length N (P.map zV) hY ⟨X'.heap.size, 0, none⟩ 1 1 [zV x] rfl (fun j u hj => cell_one_new X' (zV x) 3 j u hj) (fun u hu => by simp at hu; subst hu; rfl) (by omega)
          have HR2 : Hid (w2.ownsRow 0 3 1 (.slice (some ⟨g, 0, none⟩) (P ++ [x]).length N) (P ++ [x]).length ((P ++ [x]).map zV)) := by
            rw [List.length_append, List.map_append]; exact hown2
          have HJ2 : Hid (J w2) := (HA.out ()).kept _ _ hJX ⟨hgrow.os, hgrow.tape, hgrow.output, Nat.le_trans (by simp) hgrow.size, fun k hk hn => (hgrow.block k (by simp; omega) (fun e => by simp at e; omega)).trans (Below.heap_alloc X' _ k hk)⟩
          have HK2 : Hid (Kept (fun k => k = g ∨ T k) w w2) := (((hKX.alloc (.cells #[zV x] 3)).drew).grown hgrow (fun k _ e => by simp at e; exact .inl e.symm))
          have HMB : Hid (∀ o n, Mj R A1 (y :: B1) o n → Mj R A B ((P ++ [x]) ++ o) (q + n)) := fun o n h => by
            have := HM.out _ _ (Mj.front hRb h)
            simpa [Nat.add_assoc] using this
          have q1 : (1 : Int) ≤ (A1.length : Int) + 1 := by omega
          have HRow : Hid ((∀ i z, (y :: B1)[i]? = some z → w.cell? ⟨ob, oc' + i, none⟩ = some (zV z)) ∧ (∀ i z, A1[i]? = some z → w.cell? ⟨ob, oa' + 1 + i, none⟩ = some (zV z)) ∧ (∀ z, z ∈ A1 ∨ z ∈ (y :: B1) → D z)) :=
            ⟨hcB', fun i z h => by have := hcA' (i + 1) z (by simpa using h); rwa [show oa' + (i + 1) = oa' + 1 + i by omega] at this, fun z h => hD' z (h.elim (fun h => .inl (List.mem_cons_of_mem _ h)) (fun h => .inr h))⟩
          clear hcA' hcB' hD' hDx hDy HM hownX hY hown2 hgrow hKX hJX hN hr
          by_cases hc1 : ca' = 1
          · have HB1 : Hid (A1 = []) := List.eq_nil_of_length_eq_zero (by omega)
            go_wp2_with fail
            go_region_law (first | (refine step_append_run rfl _ _ _ _ rfl _ _ (by rfl) (by rfl) _ _ hrun ?_))
            all_goals
              simp only [Act.put]
              go_simp
              go_wp2
              go_roundw
              case rel => exact ⟨P ++ [x], A1, (y :: B1), q, oa', 0, oc', cc', by simp, by simp, by simp, rfl, HMB.out, (by simp only [List.length_append, List.length_cons, List.length_nil]; omega), (by first | omega | (simp only [List.length_cons]; omega)), (by first | omega | (simp only [List.length_cons]; omega)), HR2.out, HJ2.out, HK2.out, (fun i z h => by rw [HB1.out] at h; simp at h), HRow.out.1, HRow.out.2.2⟩
              case measure => simp [lenV]
          · go_wp2_with fail
            go_region_law (first | (refine step_append_run rfl _ _ _ _ rfl _ _ (by rfl) (by rfl) _ _ hrun ?_))
            all_goals
              simp only [Act.put]
              go_simp
              go_wp2
              go_roundw
              case rel => exact ⟨P ++ [x], A1, (y :: B1), q, oa' + 1, ca' - 1, oc', cc', by simp, by simp, by simp, rfl, HMB.out, (by simp only [List.length_append, List.length_cons, List.length_nil]; omega), (by first | omega | (simp only [List.length_cons]; omega)), (by first | omega | (simp only [List.length_cons]; omega)), HR2.out, HJ2.out, HK2.out, HRow.out.2.1, HRow.out.1, HRow.out.2.2⟩
              case measure => simp [lenV]
end Go.Proofs.Ytgemkmpepnaoiab
