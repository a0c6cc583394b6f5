/-
  Rows joined and put in order by a comparison that may be asked so many times alone.
-/
import Derived.Test.YtgemkmpepnaoiaaRku
namespace Go.Proofs.Ytgemkmpepnaoiaa
open Go.RowKit Go.Lib Go.Maps

/-- A comparison that is handed in, and may be asked so many times: J c says that it may be asked c times more. -/
structure AskB (F : Nat) (caps : Array Value) (D : Int → Prop) (R : Int → Int → Bool → Prop) (T : Nat → Prop) (n0 : Nat) (J : Nat → World → Prop) : Prop where
  enters : ∀ (args : Array Value) (X : World), (callFunc F args).run Try.prog X = .ok (.enter F args) X
  asks : ∀ c X i j, J (c + 1) X → D i → D j → Calls Try.prog F (#[zV i, zV j] ++ caps) X fun e X' => ∃ b, e = .returned (.bool b) ∧ R i j b ∧ J c X' ∧ Kept T X X'
  kept : ∀ c X X', J c X → Kept (fun k => n0 ≤ k) X X' → J c X'
  less : ∀ c d X, c ≤ d → J d X → J c X
  ahead : ∀ k, T k → k < n0

set_option maxHeartbeats 2000000 in
set_option maxRecDepth 100000 in
theorem joinB_any {F : Nat} {caps : Array Value} {D : Int → Prop} {R : Int → Int → Bool → Prop} {T : Nat → Prop} {n0 : Nat} {J : Nat → World → Prop} (hA : AskB F caps D R T n0 J)
    (cb g N ob oa ca oc cc : Nat) (A B : List Int) (w : World) (hJ : J (cb + A.length + B.length) w) (hg : n0 ≤ g) (ho : n0 ≤ ob) (hgo : g ≠ ob) (hol : ob < w.heap.size)
    (hr : w.ownsRow 0 3 1 (.slice (some ⟨g, 0, none⟩) 0 N) 0 []) (hN : A.length + B.length ≤ N) (hca : A.length ≤ ca) (hcc : B.length ≤ cc)
    (hcA : ∀ i z, A[i]? = some z → w.cell? ⟨ob, oa + i, none⟩ = some (zV z)) (hcB : ∀ i z, B[i]? = some z → w.cell? ⟨ob, oc + i, none⟩ = some (zV z)) (hD : ∀ z, z ∈ A ∨ z ∈ B → D z) :
    Calls Try.prog 33 #[.slice (some ⟨g, 0, none⟩) 0 N, .slice (some ⟨ob, oa, none⟩) A.length ca, .slice (some ⟨ob, oc, none⟩) B.length cc, .func (.func F) #[] caps] w fun e w' =>
      ∃ o n, e = .returned (.tuple #[.slice (some ⟨g, 0, none⟩) o.length N, zV (wrap64 (n : Nat))]) ∧ Mj R A B o n ∧ w'.ownsRow 0 3 1 (.slice (some ⟨g, 0, none⟩) o.length N) o.length (o.map zV) ∧ J cb w' ∧ Kept (fun k => k = g ∨ T k) w w' := by
  have hE := hA.enters
  obtain ⟨i0, hi, hz0, hz1, hz2⟩ := info_parts Try.infoI
  have hgT : ¬ T g := fun h => by have := hA.ahead g h; omega
  have hoT : ¬ T ob := fun h => by have := hA.ahead ob h; omega
  have HA : Hid (Unit → _) := fun (_ : Unit) => hA
  clear hA
  go_enter Try.func33, Try.ntmps33
  go_wp2_with fail
  go_loopw [0, 1, 2, 10] (fun r f k p wr => ∃ (P A' B' : List Int) (q oa' ca' oc' cc' : Nat), r = .slice (some ⟨g, 0, none⟩) P.length N ∧ f = .slice (some ⟨ob, oa', none⟩) A'.length ca' ∧ k = .slice (some ⟨ob, oc', none⟩) B'.length cc' ∧ p = zV (wrap64 (q : Nat)) ∧ (∀ o n, Mj R A' B' o n → Mj R A B (P ++ o) (q + n))
      ∧ P.length + A'.length + B'.length = A.length + B.length ∧ A'.length ≤ ca' ∧ B'.length ≤ cc' ∧ wr.ownsRow 0 3 1 (.slice (some ⟨g, 0, none⟩) P.length N) P.length (P.map zV) ∧ J (cb + A'.length + B'.length) wr ∧ Kept (fun k => k = g ∨ T k) w wr
      ∧ (∀ i z, A'[i]? = some z → w.cell? ⟨ob, oa' + i, none⟩ = some (zV z)) ∧ (∀ i z, B'[i]? = some z → w.cell? ⟨ob, oc' + i, none⟩ = some (zV z)) ∧ (∀ z, z ∈ A' ∨ z ∈ B' → D z)) (fun r f k p _ => lenV f + lenV k)
  case atStart => exact ⟨[], A, B, 0, oa, ca, oc, cc, rfl, rfl, rfl, congrArg zV (by unfold wrap64; omega), fun o n h => by simpa using h, by simp, hca, hcc, hr, hJ, Kept.refl _ _, hcA, hcB, hD⟩
  case round =>
    obtain ⟨P, A', B', q, oa', ca', oc', cc', rfl, rfl, rfl, rfl, hmj, hlen, hca', hcc', hown, hJr, hK, hcA', hcB', hD'⟩ := hrel
    have cellO : ∀ i, wr.cell? ⟨ob, i, none⟩ = w.cell? ⟨ob, i, none⟩ := fun i => hK.cell (p := ⟨ob, i, none⟩) hol (fun h => h.elim (fun e => hgo e.symm) hoT)
    have HM := show Hid _ from hmj
    clear hmj
    have HEnd : Hid (A' = [] ∨ B' = [] → ∃ w1 w2, (Builtin.append_ #[25, 25] 25 #[.slice (some ⟨g, 0, none⟩) P.length N, .slice (some ⟨ob, oa', none⟩) A'.length ca']).run Try.prog wr = .ok (.slice (some ⟨g, 0, none⟩) (P.length + A'.length) N) w1 ∧ (Builtin.append_ #[25, 25] 25 #[.slice (some ⟨g, 0, none⟩) (P.length + A'.length) N, .slice (some ⟨ob, oc', none⟩) B'.length cc']).run Try.prog w1 = .ok (.slice (some ⟨g, 0, none⟩) (P.length + A'.length + B'.length) N) w2 ∧
        Mj R A B (P ++ (A' ++ B')) q ∧ w2.ownsRow 0 3 1 (.slice (some ⟨g, 0, none⟩) (P ++ (A' ++ B')).length N) (P ++ (A' ++ B')).length ((P ++ (A' ++ B')).map zV) ∧ J cb w2 ∧ Kept (fun k => k = g ∨ T k) w w2) := fun hend => by
      have hgl : g < wr.heap.size := owns_lt hown (by simp [Value.ownBlock])
      obtain ⟨w1, hr1, ho1, hg1⟩ := run_append_fits (P := Try.prog) wr 0 25 25 3 i0 1 Try.underlying25 hi hz1 g P.length N (P.map zV) hown ⟨ob, oa', none⟩ A'.length ca' (A'.map zV) (by simp) (fun j u hj => by
        rw [List.getElem?_map] at hj
        obtain ⟨z, hz, rfl⟩ := Option.map_eq_some_iff.1 hj
        rw [Addr.add_lit, cellO]
        exact hcA' j z hz) (fun u hu => by obtain ⟨_, _, rfl⟩ := List.mem_map.1 hu; rfl) (by omega)
      have hol1 : ob < wr.heap.size := Nat.lt_of_lt_of_le hol hK.size
      obtain ⟨w2, hr2, ho2, hg2⟩ := run_append_fits (P := Try.prog) w1 0 25 25 3 i0 1 Try.underlying25 hi hz1 g (P.length + A'.length) N (P.map zV ++ A'.map zV) ho1 ⟨ob, oc', none⟩ B'.length cc' (B'.map zV) (by simp) (fun j u hj => by
        rw [List.getElem?_map] at hj
        obtain ⟨z, hz, rfl⟩ := Option.map_eq_some_iff.1 hj
        rw [Addr.add_lit, hg1.cell_far ⟨ob, oc' + j, none⟩ hol1 (fun e => by simp at e; exact hgo e.symm), cellO]
        exact hcB' j z hz) (fun u hu => by obtain ⟨_, _, rfl⟩ := List.mem_map.1 hu; rfl) (by omega)
      have hk1 : Kept (fun k => k = g) wr w1 := (Kept.refl _ wr).grown hg1 (fun k _ e => by simp at e; exact e.symm)
      have hk2 : Kept (fun k => k = g) wr w2 := hk1.grown hg2 (fun k _ e => by simp at e; exact e.symm)
      refine ⟨w1, w2, hr1, hr2, ?_, ?_, (HA.out ()).less _ _ _ (by omega) ((HA.out ()).kept _ _ _ hJr (hk2.mono (fun i _ e => by rw [e]; exact hg))), hK.trans hk2 (fun _ _ e => .inl e)⟩
      · have h0 : Mj R A' B' (A' ++ B') 0 := by
          rcases hend with e | e
          · rw [e]; exact Mj.nilL _
          · rw [e, List.append_nil]; exact Mj.nilR _
        exact HM.out _ _ h0
      · rw [List.map_append, List.map_append, List.length_append, List.length_append, ← Nat.add_assoc, ← List.append_assoc]
        exact ho2
    by_cases hend : A' = [] ∨ B' = []
    · obtain ⟨w1, w2, hr1, hr2, hmj, ho2, hJ2, hK2⟩ := HEnd.out hend
      have HF : Hid (Mj R A B (P ++ (A' ++ B')) q ∧ w2.ownsRow 0 3 1 (.slice (some ⟨g, 0, none⟩) (P ++ (A' ++ B')).length N) (P ++ (A' ++ B')).length ((P ++ (A' ++ B')).map zV) ∧ J cb w2 ∧ Kept (fun k => k = g ∨ T k) w w2) := ⟨hmj, ho2, hJ2, hK2⟩
      have HL : Hid ((P ++ (A' ++ B')).length = P.length + A'.length + B'.length) := by show _ = _; simp [Nat.add_assoc]
      clear HEnd hmj ho2 hJ2 hK2 hown hJr hK cellO hcA' hcB' hD' hcA hcB hr HM
      have hend' : A'.length = 0 ∨ B'.length = 0 := hend.elim (fun e => .inl (by rw [e]; rfl)) (fun e => .inr (by rw [e]; rfl))
      clear hlen hca' hcc' hend
      generalize A'.length = la at *
      generalize B'.length = lb at *
      by_cases hA0 : la = 0
      · subst hA0
        rw [Nat.add_zero] at hr1 hr2
        have HL' : Hid ((P ++ (A' ++ B')).length = P.length + lb) := HL.out
        clear HL hend'
        go_wp2_with (at_builtin; first | (refine Lib.wpList_append_run _ rfl _ _ _ _ rfl _ _ rfl rfl _ _ hr1 ?_; clear hr1) | (refine Lib.wpList_append_run _ rfl _ _ _ _ rfl _ _ rfl rfl _ _ hr2 ?_))
        go_ret2
        exact ⟨P ++ (A' ++ B'), q, by rw [HL'.out]; rfl, HF.out⟩
      · obtain rfl : lb = 0 := by omega
        rw [Nat.add_zero] at hr2
        have HL' : Hid ((P ++ (A' ++ B')).length = P.length + la) := HL.out
        have hA1 : 0 < la := by omega
        clear HL hend'
        go_wp2_with (at_builtin; first | (refine Lib.wpList_append_run _ rfl _ _ _ _ rfl _ _ rfl rfl _ _ hr1 ?_; clear hr1) | (refine Lib.wpList_append_run _ rfl _ _ _ _ rfl _ _ rfl rfl _ _ hr2 ?_))
        go_ret2
        exact ⟨P ++ (A' ++ B'), q, by rw [HL'.out]; rfl, HF.out⟩
    clear HEnd
    rcases A' with _ | ⟨x, A1⟩
    · exact absurd (Or.inl rfl) hend
    · rcases B' with _ | ⟨y, B1⟩
      · exact absurd (Or.inr rfl) hend
      · have cx : wr.cell? ⟨ob, oa', none⟩ = some (zV x) := by rw [cellO]; exact hcA' 0 x rfl
        have cy : wr.cell? ⟨ob, oc', none⟩ = some (zV y) := by rw [cellO]; exact hcB' 0 y rfl
        have hask := (HA.out ()).asks
        have hDx := hD' x (.inl List.mem_cons_self)
        have hDy := hD' y (.inr List.mem_cons_self)
        go_wp2_with fail
        have hJr' : J (cb + A1.length + B1.length + 1 + 1) wr := (HA.out ()).less _ _ _ (by simp only [List.length_cons]; omega) hJr
        have hask' := hask (cb + A1.length + B1.length + 1) wr.drew y x ((HA.out ()).kept _ _ _ hJr' (Kept.refl _ _).drew) hDy hDx
        go_region_held3 (fun X => X.cell? ⟨ob, oa', none⟩ = some (zV x) ∧ X.cell? ⟨ob, oc', none⟩ = some (zV y) ∧ J (cb + A1.length + B1.length + 1) X ∧ Kept T wr X) (first | exact ⟨cx, cy, (HA.out ()).less _ _ _ (by omega) ((HA.out ()).kept _ _ _ hJr' (Kept.refl _ _).drew), (Kept.refl _ _).drew⟩ | exact hS' | assumption) (first | ((with_reducible refine hask'.mono ?_); rintro e X' ⟨bb, rfl, hRb, hJb, hKb⟩; have hS' : X'.cell? ⟨ob, oa', none⟩ = some (zV x) ∧ X'.cell? ⟨ob, oc', none⟩ = some (zV y) ∧ J (cb + A1.length + B1.length + 1) X' ∧ Kept T wr X' := ⟨(hKb.cell (p := ⟨ob, oa', none⟩) (by have := hK.size; simp; omega) hoT).trans cx, (hKb.cell (p := ⟨ob, oc', none⟩) (by have := hK.size; simp; omega) hoT).trans cy, hJb, (Kept.undrew hKb)⟩))
        have hKX : Kept (fun k => k = g ∨ T k) w X' := hK.trans hS'.2.2.2 (fun _ _ h => .inr h)
        have hJX : J (cb + A1.length + B1.length + 1) X' := hS'.2.2.1
        have hcy : X'.cell? ⟨ob, oc', none⟩ = some (zV y) := hS'.2.1
        have hcx : X'.cell? ⟨ob, oa', none⟩ = some (zV x) := hS'.1
        have hownX : X'.ownsRow 0 3 1 (.slice (some ⟨g, 0, none⟩) P.length N) P.length (P.map zV) := owns_kept hown hS'.2.2.2 (fun k e => by simp [Value.ownBlock] at e; subst e; exact hgT)
        have hgX : g < X'.heap.size := owns_lt hownX (by simp [Value.ownBlock])
        clear hS' hKb hJb cx cy hown hJr hJr' hK cellO hask hask' hcA hcB
        have hlen' : P.length + A1.length + B1.length + 2 = A.length + B.length := by simp only [List.length_cons] at hlen; omega
        simp only [List.length_cons] at hca' hcc'
        cases bb with
        | true =>
          have hY : (X'.alloc (.cells #[zV y] 3)).drew.ownsRow 0 3 1 (.slice (some ⟨g, 0, none⟩) P.length N) P.length (P.map zV) := owns_kept hownX (((Kept.refl (fun _ => False) X').alloc _).drew) (fun _ _ e => e)
          obtain ⟨w2, hrun, hown2, hgrow⟩ := run_append_fits (P := Try.prog) (X'.alloc (.cells #[zV y] 3)).drew 0 25 25 3 i0 1 Try.underlying25 hi hz1 g P.length N (P.map zV) hY ⟨X'.heap.size, 0, none⟩ 1 1 [zV y] rfl (fun j u hj => cell_one_new X' (zV y) 3 j u hj) (fun u hu => by simp at hu; subst hu; rfl) (by omega)
          have HR2 : Hid (w2.ownsRow 0 3 1 (.slice (some ⟨g, 0, none⟩) (P ++ [y]).length N) (P ++ [y]).length ((P ++ [y]).map zV)) := by
            rw [List.length_append, List.map_append]; exact hown2
          have HJ2 : Hid (J (cb + A1.length + B1.length + 1) w2) := (HA.out ()).kept _ _ _ hJX ⟨hgrow.os, hgrow.tape, hgrow.output, Nat.le_trans (by simp) hgrow.size, fun k hk hn => (hgrow.block k (by simp; omega) (fun e => by simp at e; omega)).trans (Below.heap_alloc X' _ k hk)⟩
          have HK2 : Hid (Kept (fun k => k = g ∨ T k) w w2) := (((hKX.alloc (.cells #[zV y] 3)).drew).grown hgrow (fun k _ e => by simp at e; exact .inl e.symm))
          have HMB : Hid (∀ o n, Mj R (x :: A1) B1 o n → Mj R A B ((P ++ [y]) ++ o) ((q + (A1.length + 1)) + n)) := fun o n h => by
            have := HM.out _ _ (Mj.back hRb h)
            simpa [Nat.add_assoc] using this
          have q1 : (1 : Int) ≤ (B1.length : Int) + 1 := by omega
          have HRow : Hid ((∀ i z, (x :: A1)[i]? = some z → w.cell? ⟨ob, oa' + i, none⟩ = some (zV z)) ∧ (∀ i z, B1[i]? = some z → w.cell? ⟨ob, oc' + 1 + i, none⟩ = some (zV z)) ∧ (∀ z, z ∈ (x :: A1) ∨ z ∈ B1 → D z)) :=
            ⟨hcA', fun i z h => by have := hcB' (i + 1) z (by simpa using h); rwa [show oc' + (i + 1) = oc' + 1 + i by omega] at this, fun z h => hD' z (h.elim (fun h => .inl h) (fun h => .inr (List.mem_cons_of_mem _ h)))⟩
          clear hcA' hcB' hD' hDx hDy HM hownX hY hown2 hgrow hKX hJX hN hr
          by_cases hc1 : cc' = 1
          · have HB1 : Hid (B1 = []) := List.eq_nil_of_length_eq_zero (by omega)
            go_wp2_with fail
            go_region_law (first | (refine step_append_run rfl _ _ _ _ rfl _ _ (by rfl) (by rfl) _ _ hrun ?_))
            all_goals
              go_wp2
              go_roundw
              case rel => exact ⟨P ++ [y], (x :: A1), B1, (q + (A1.length + 1)), oa', ca', oc', 0, by simp, by simp, by simp, (by rw [show ((q + (A1.length + 1) : Nat) : Int) = (q : Int) + ((A1.length : Int) + 1) by omega]; exact congrArg zV (wrap_plus' _ _)), HMB.out, (by simp only [List.length_append, List.length_cons, List.length_nil]; omega), (by first | omega | (simp only [List.length_cons]; omega)), (by first | omega | (simp only [List.length_cons]; omega)), HR2.out, (HA.out ()).less _ _ _ (by first | omega | (simp only [List.length_cons]; omega)) HJ2.out, HK2.out, HRow.out.1, (fun i z h => by rw [HB1.out] at h; simp at h), HRow.out.2.2⟩
              case measure => simp [lenV]
          · go_wp2_with fail
            go_region_law (first | (refine step_append_run rfl _ _ _ _ rfl _ _ (by rfl) (by rfl) _ _ hrun ?_))
            all_goals
              go_wp2
              go_roundw
              case rel => exact ⟨P ++ [y], (x :: A1), B1, (q + (A1.length + 1)), oa', ca', oc' + 1, cc' - 1, by simp, by simp, by simp, (by rw [show ((q + (A1.length + 1) : Nat) : Int) = (q : Int) + ((A1.length : Int) + 1) by omega]; exact congrArg zV (wrap_plus' _ _)), HMB.out, (by simp only [List.length_append, List.length_cons, List.length_nil]; omega), (by first | omega | (simp only [List.length_cons]; omega)), (by first | omega | (simp only [List.length_cons]; omega)), HR2.out, (HA.out ()).less _ _ _ (by first | omega | (simp only [List.length_cons]; omega)) HJ2.out, HK2.out, HRow.out⟩
              case measure => simp [lenV]
        | false =>
          have hY : (X'.alloc (.cells #[zV x] 3)).drew.ownsRow 0 3 1 (.slice (some ⟨g, 0, none⟩) P.length N) P.length (P.map zV) := owns_kept hownX (((Kept.refl (fun _ => False) X').alloc _).drew) (fun _ _ e => e)
          obtain ⟨w2, hrun, hown2, hgrow⟩ := run_append_fits (P := Try.prog) (X'.alloc (.cells #[zV x] 3)).drew 0 25 25 3 i0 1 Try.underlying25 hi hz1 g P.length N (P.map zV) hY ⟨X'.heap.size, 0, none⟩ 1 1 [zV x] rfl (fun j u hj => cell_one_new X' (zV x) 3 j u hj) (fun u hu => by simp at hu; subst hu; rfl) (by omega)
          have HR2 : Hid (w2.ownsRow 0 3 1 (.slice (some ⟨g, 0, none⟩) (P ++ [x]).length N) (P ++ [x]).length ((P ++ [x]).map zV)) := by
            rw [List.length_append, List.map_append]; exact hown2
          have HJ2 : Hid (J (cb + A1.length + B1.length + 1) w2) := (HA.out ()).kept _ _ _ hJX ⟨hgrow.os, hgrow.tape, hgrow.output, Nat.le_trans (by simp) hgrow.size, fun k hk hn => (hgrow.block k (by simp; omega) (fun e => by simp at e; omega)).trans (Below.heap_alloc X' _ k hk)⟩
          have HK2 : Hid (Kept (fun k => k = g ∨ T k) w w2) := (((hKX.alloc (.cells #[zV x] 3)).drew).grown hgrow (fun k _ e => by simp at e; exact .inl e.symm))
          have HMB : Hid (∀ o n, Mj R A1 (y :: B1) o n → Mj R A B ((P ++ [x]) ++ o) (q + n)) := fun o n h => by
            have := HM.out _ _ (Mj.front hRb h)
            simpa [Nat.add_assoc] using this
          have q1 : (1 : Int) ≤ (A1.length : Int) + 1 := by omega
          have HRow : Hid ((∀ i z, (y :: B1)[i]? = some z → w.cell? ⟨ob, oc' + i, none⟩ = some (zV z)) ∧ (∀ i z, A1[i]? = some z → w.cell? ⟨ob, oa' + 1 + i, none⟩ = some (zV z)) ∧ (∀ z, z ∈ A1 ∨ z ∈ (y :: B1) → D z)) :=
            ⟨hcB', fun i z h => by have := hcA' (i + 1) z (by simpa using h); rwa [show oa' + (i + 1) = oa' + 1 + i by omega] at this, fun z h => hD' z (h.elim (fun h => .inl (List.mem_cons_of_mem _ h)) (fun h => .inr h))⟩
          clear hcA' hcB' hD' hDx hDy HM hownX hY hown2 hgrow hKX hJX hN hr
          by_cases hc1 : ca' = 1
          · have HB1 : Hid (A1 = []) := List.eq_nil_of_length_eq_zero (by omega)
            go_wp2_with fail
            go_region_law (first | (refine step_append_run rfl _ _ _ _ rfl _ _ (by rfl) (by rfl) _ _ hrun ?_))
            all_goals
              simp only [Act.put]
              go_simp
              go_wp2
              go_roundw
              case rel => exact ⟨P ++ [x], A1, (y :: B1), q, oa', 0, oc', cc', by simp, by simp, by simp, rfl, HMB.out, (by simp only [List.length_append, List.length_cons, List.length_nil]; omega), (by first | omega | (simp only [List.length_cons]; omega)), (by first | omega | (simp only [List.length_cons]; omega)), HR2.out, (HA.out ()).less _ _ _ (by first | omega | (simp only [List.length_cons]; omega)) HJ2.out, HK2.out, (fun i z h => by rw [HB1.out] at h; simp at h), HRow.out.1, HRow.out.2.2⟩
              case measure => simp [lenV]
          · go_wp2_with fail
            go_region_law (first | (refine step_append_run rfl _ _ _ _ rfl _ _ (by rfl) (by rfl) _ _ hrun ?_))
            all_goals
              simp only [Act.put]
              go_simp
              go_wp2
              go_roundw
              case rel => exact ⟨P ++ [x], A1, (y :: B1), q, oa' + 1, ca' - 1, oc', cc', by simp, by simp, by simp, rfl, HMB.out, (by simp only [List.length_append, List.length_cons, List.length_nil]; omega), (by first | omega | (simp only [List.length_cons]; omega)), (by first | omega | (simp only [List.length_cons]; omega)), HR2.out, (HA.out ()).less _ _ _ (by first | omega | (simp only [List.length_cons]; omega)) HJ2.out, HK2.out, HRow.out.2.1, HRow.out.1, HRow.out.2.2⟩
              case measure => simp [lenV]

set_option maxHeartbeats 2000000 in
set_option maxRecDepth 100000 in
theorem arrangeB_any {F : Nat} {caps : Array Value} {D : Int → Prop} {R : Int → Int → Bool → Prop} {T : Nat → Prop} {n0 : Nat} {J : Nat → World → Prop} (hA : AskB F caps D R T n0 J)
    (g NL N ob : Nat) (hg : n0 ≤ g) (ho : n0 ≤ ob) (hgo : g ≠ ob) : ∀ (k c0 : Nat) (M P Q : List Int) (cap : Nat) (w : World), M.length ≤ 2 ^ k → J (c0 + M.length * k) w → At w ob (P ++ M ++ Q) → M.length ≤ cap → cap ≤ 4611686018427387904 →
      w.ownsRow 0 3 1 (.slice (some ⟨g, 0, none⟩) 0 N) 0 [] → M.length ≤ N → (∀ z ∈ M, D z) →
    Calls Try.prog 27 #[.slice (some ⟨ob, P.length, none⟩) M.length cap, .slice (some ⟨g, 0, none⟩) NL N, .func (.func F) #[] caps] w fun e w' =>
      ∃ o n, e = .returned (zV (wrap64 (n : Nat))) ∧ Ar R M o n ∧ At w' ob (P ++ o ++ Q) ∧ w'.ownsRow 0 3 1 (.slice (some ⟨g, 0, none⟩) 0 N) 0 [] ∧ J c0 w' ∧ Kept (fun k => k = g ∨ k = ob ∨ T k) w w' := by
  have hgT : ¬ T g := fun h => by have := hA.ahead g h; omega
  have hoT : ¬ T ob := fun h => by have := hA.ahead ob h; omega
  intro k
  induction k with
  | zero =>
    intro c0 M P Q cap w hk hJ hAt hcap hcb hr hN hD
    have hk1 : M.length ≤ 1 := by simpa using hk
    have hJ0 : J c0 w := hA.less _ _ _ (by omega) hJ
    obtain ⟨l, hl⟩ : ∃ l, l = M.length := ⟨_, rfl⟩
    have hq : ((l : Int)).tdiv 2 = 0 := by rw [Int.tdiv_eq_ediv_of_nonneg (by omega)]; omega
    have HF : Hid (Ar R M M 0 ∧ At w ob (P ++ M ++ Q) ∧ w.ownsRow 0 3 1 (.slice (some ⟨g, 0, none⟩) 0 N) 0 [] ∧ J c0 w) := ⟨Ar.small M (by omega), hAt, hr, hJ0⟩
    rw [← hl] at hcap hN ⊢
    clear hAt hr hJ hD hk hk1 hl hJ0
    go_enter Try.func27, Try.ntmps27
    go_wp2_with fail
    go_ret
    exact ⟨M, 0, by unfold wrap64; rfl, HF.out.1, HF.out.2.1, HF.out.2.2.1, HF.out.2.2.2, Kept.refl _ _⟩
  | succ k ih =>
    intro c0 M P Q cap w hk hJ hAt hcap hcb hr hN hD
    have hp2 : 2 ^ (k + 1) = 2 * 2 ^ k := by rw [Nat.pow_succ, Nat.mul_comm]
    rw [hp2] at hk
    obtain ⟨h, hh⟩ : ∃ h, h = M.length / 2 := ⟨_, rfl⟩
    obtain ⟨l, hl⟩ : ∃ l, l = M.length := ⟨_, rfl⟩
    by_cases h0 : h = 0
    · have HF : Hid (Ar R M M 0 ∧ At w ob (P ++ M ++ Q) ∧ w.ownsRow 0 3 1 (.slice (some ⟨g, 0, none⟩) 0 N) 0 [] ∧ J c0 w) := ⟨Ar.small M (by omega), hAt, hr, hA.less _ _ _ (by omega) hJ⟩
      have hq : ((l : Int)).tdiv 2 = 0 := by rw [Int.tdiv_eq_ediv_of_nonneg (by omega)]; omega
      rw [← hl] at hcap hN ⊢
      clear hAt hr hJ hD hh ih hl hk hp2
      go_enter Try.func27, Try.ntmps27
      go_wp2_with fail
      go_ret
      exact ⟨M, 0, by unfold wrap64; rfl, HF.out.1, HF.out.2.1, HF.out.2.2.1, HF.out.2.2.2, Kept.refl _ _⟩
    · obtain ⟨X, Y, hX, hY, hXY⟩ : ∃ X Y, X = M.take h ∧ Y = M.drop h ∧ M = X ++ Y := ⟨_, _, rfl, rfl, (List.take_append_drop _ _).symm⟩
      have hXl : X.length = h := by rw [hX, List.length_take]; omega
      have hYl : Y.length = l - h := by rw [hY, List.length_drop, hl]
      have hhl : h < l := by omega
      have HX : Hid (X = M.take (M.length / 2) ∧ Y = M.drop (M.length / 2) ∧ M.length / 2 ≠ 0) := ⟨by rw [hX, hh], by rw [hY, hh], by omega⟩
      have hq : ((l : Int)).tdiv 2 = (h : Int) := by rw [Int.tdiv_eq_ediv_of_nonneg (by omega)]; omega
      have i1 := fun (w1 : World) hJ1 hAt1 hr1 => ih (c0 + (l - h) * k + l) X P (Y ++ Q) cap w1 (by omega) hJ1 hAt1 (by omega) hcb hr1 (by omega) (fun z hz => hD z (by rw [hXY]; exact List.mem_append.2 (.inl hz)))
      have i2 := fun (a : List Int) (w1 : World) (ha : a.length = h) hJ1 hAt1 hr1 => ih (c0 + l) Y (P ++ a) Q (cap - h) w1 (by omega) hJ1 hAt1 (by omega) (by omega) hr1 (by omega) (fun z hz => hD z (by rw [hXY]; exact List.mem_append.2 (.inr hz)))
      rw [← hl] at hcap hN ⊢
      have r1 : (h : Int) ≤ (cap : Int) := by omega
      have r2 : (h : Int) ≤ (l : Int) := by omega
      have r3 : ¬ cap = h := by omega
      have hcost : c0 + (l - h) * k + l + h * k ≤ c0 + M.length * (k + 1) := by
        rw [← hl, Nat.mul_succ]
        have e : l * k = h * k + (l - h) * k := by rw [← Nat.add_mul]; congr 1; omega
        omega
      have hAtw : At w ob (P ++ X ++ (Y ++ Q)) := by rw [hXY] at hAt; simpa using hAt
      have HS : Hid (∀ n, J (c0 + (l - h) * k + l + h * k) (w.drewN n) ∧ At (w.drewN n) ob (P ++ X ++ (Y ++ Q)) ∧ (w.drewN n).ownsRow 0 3 1 (.slice (some ⟨g, 0, none⟩) 0 N) 0 [] ∧ Kept (fun k => k = g ∨ k = ob ∨ T k) w (w.drewN n)) := fun n =>
        ⟨hA.less _ _ _ hcost (hA.kept _ _ _ hJ ⟨rfl, rfl, rfl, Nat.le_refl _, fun _ _ _ => rfl⟩), hAtw, hr, ⟨rfl, rfl, rfl, Nat.le_refl _, fun _ _ _ => rfl⟩⟩
      rw [hXl] at i1
      have HI1 : Hid (Unit → _) := fun (_ : Unit) => i1
      have HI2 : Hid (Unit → _) := fun (_ : Unit) => i2
      have HMY : Hid (M = X ++ Y ∧ l = M.length ∧ X.length = h ∧ Y.length = l - h) := ⟨hXY, hl, hXl, hYl⟩
      have HD : Hid (∀ z ∈ M, D z) := hD
      have HAS : Hid (Unit → _) := fun (_ : Unit) => hA
      have hsz : (Try.prog.info? 3).map (·.size) = some 1 := by obtain ⟨i0, hi, _, hz1, _⟩ := info_parts Try.infoI; rw [hi]; simp [hz1]
      clear i1 i2 hX hY hXY hh hAt hr hJ hl hD ih hXl hYl hAtw hA hcost hp2 hk
      go_enter Try.func27, Try.ntmps27
      go_wp2_with fail
      go_quiet (fail)
      have HS' := HS.out nq
      clear HS
      go_wp2_with fail
      refine ((HI1.out ()) _ HS'.1 HS'.2.1 HS'.2.2.1).mono ?_
      rintro e w1 ⟨a, na, rfl, hAr1, hAt1, hr1, hJ1, hK1⟩
      have ha : a.length = h := hAr1.length.trans HMY.out.2.2.1
      have hK01 : Kept (fun k => k = g ∨ k = ob ∨ T k) w w1 := HS'.2.2.2.trans hK1 (fun _ _ e => e)
      have hi2 := (HI2.out ()) a w1 ha ((HAS.out ()).less _ _ _ (by rw [HMY.out.2.2.2]; omega) hJ1) (by simpa using hAt1) hr1
      rw [List.length_append, ha, HMY.out.2.2.2] at hi2
      have HI2' : Hid (Unit → _) := fun (_ : Unit) => hi2
      have HP1 : Hid (Ar R X a na ∧ Kept (fun k => k = g ∨ k = ob ∨ T k) w w1) := ⟨hAr1, hK01⟩
      clear hi2 HS' HI1 HI2 hAr1 hAt1 hr1 hJ1 hK1 hK01
      go_wp2_with fail
      refine ((HI2'.out ())).mono ?_
      rintro e w2 ⟨b, nb, rfl, hAr2, hAt2, hr2, hJ2, hK2⟩
      have hb : b.length = l - h := hAr2.length.trans HMY.out.2.2.2
      have hM2 := HMY.out.2.1
      have hol2 : ob < w2.heap.size := lt_of_heap hAt2
      have hDab : ∀ z, z ∈ a ∨ z ∈ b → D z := fun z hz => HD.out z (by
        rw [HMY.out.1]
        exact List.mem_append.2 (hz.imp (HP1.out.1.perm.mem_iff.1) (hAr2.perm.mem_iff.1)))
      have hj := joinB_any (HAS.out ()) c0 g N ob P.length cap (P.length + h) (cap - h) a b w2 ((HAS.out ()).less _ _ _ (by omega) hJ2) hg ho hgo hol2 hr2 (by omega) (by omega) (by omega)
        (fun i z hz => by
          have hi : i < a.length := (List.getElem?_eq_some_iff.1 hz).1
          rw [hAt2.cell, List.append_assoc, List.append_assoc, List.getElem?_append_right (by omega), Nat.add_sub_cancel_left, List.getElem?_append_left hi, hz]; rfl)
        (fun i z hz => by
          have hi : i < b.length := (List.getElem?_eq_some_iff.1 hz).1
          rw [hAt2.cell, List.append_assoc, List.getElem?_append_right (by simp; omega), List.length_append, ha, Nat.add_sub_cancel_left, List.getElem?_append_left hi, hz]; rfl) hDab
      rw [ha, hb] at hj
      have HJ' : Hid (Unit → _) := fun (_ : Unit) => hj
      have HP2 : Hid (Ar R Y b nb ∧ At w2 ob (P ++ a ++ b ++ Q) ∧ Kept (fun k => k = g ∨ k = ob ∨ T k) w w2) := ⟨hAr2, hAt2, HP1.out.2.trans hK2 (fun _ _ e => e)⟩
      clear hj hDab hol2 hM2 hAr2 hAt2 hr2 hJ2 hK2 HI2'
      go_wp2_with fail
      refine ((HJ'.out ())).mono ?_
      rintro e w3 ⟨o, no, rfl, hmj, hown3, hJ3, hK3⟩
      have hol : o.length = l := by rw [hmj.length, ha, hb]; omega
      have hAt3 : At w3 ob (P ++ (a ++ b) ++ Q) := by
        have := HP2.out.2.1.kept hK3 (fun h => h.elim (fun e => hgo e.symm) hoT)
        simpa using this
      have hgl : g < w3.heap.size := owns_lt hown3 (by simp [Value.ownBlock])
      have hcp : ∀ ty, (Builtin.copy_ #[25, 25] ty #[.slice (some ⟨ob, P.length, none⟩) l cap, .slice (some ⟨g, 0, none⟩) l N]).run Try.prog w3 = .ok (goInt (o.map zV).length) (w3.setCells ob P.length (o.map zV)) := fun ty =>
        run_copy_cells w3 _ _ ty 3 ob P.length l cap ⟨g, 0, none⟩ l N (o.map zV) Try.underlying25 hsz (by simp [hol])
          (fun j v hj => by
            have hj' : j < o.length := by have := (List.getElem?_eq_some_iff.1 hj).1; simpa using this
            rw [Addr.add_lit, Nat.zero_add, hown3.cellAt j (by omega)]
            exact hj)
          (fun j hj => by
            rw [hAt3.cell, List.append_assoc, List.getElem?_append_right (by omega), Nat.add_sub_cancel_left, List.getElem?_append_left (by simp at hj ⊢; omega), List.getElem?_eq_getElem (by simp at hj ⊢; omega)]; rfl)
          (fun j _ => hAt3.frozen _) (fun u hu => by obtain ⟨_, _, rfl⟩ := List.mem_map.1 hu; rfl)
      have hK4 : Kept (fun k => k = ob) w3 (w3.setCells ob P.length (o.map zV)) := kept_setCells ob _ _ _
      have HP3 : Hid (Ar R M o (na + nb + no) ∧ At (w3.setCells ob P.length (o.map zV)) ob (P ++ o ++ Q) ∧ (w3.setCells ob P.length (o.map zV)).ownsRow 0 3 1 (.slice (some ⟨g, 0, none⟩) 0 N) 0 [] ∧ J c0 (w3.setCells ob P.length (o.map zV)) ∧ Kept (fun k => k = g ∨ k = ob ∨ T k) w (w3.setCells ob P.length (o.map zV))) := by
        refine ⟨Ar.halves HX.out.2.2 (by rw [← HX.out.1]; exact HP1.out.1) (by rw [← HX.out.2.1]; exact HP2.out.1) hmj, hAt3.set (by rw [hmj.length, List.length_append]), ?_, (HAS.out ()).kept _ _ _ hJ3 (hK4.mono (fun i _ e => by rw [e]; exact ho)), (HP2.out.2.2.trans (hK3.mono (fun i _ h => h.elim .inl (fun h => .inr (.inr h)))) (fun _ _ e => e)).trans hK4 (fun _ _ e => .inr (.inl e))⟩
        have h4 := owns_kept hown3 hK4 (fun k e => by simp [Value.ownBlock] at e; subst e; exact hgo)
        refine ⟨rfl, ?_⟩
        rcases h4.2 with ⟨h, _⟩ | ⟨g', cap', cur, h, hb', hg', hn', hm', hs', _⟩
        · cases h
        · cases h
          exact .inr ⟨g, N, cur, rfl, hb', hg', Nat.zero_le _, hm', hs', rfl⟩
      rw [hol]
      generalize w3.setCells ob P.length (o.map zV) = w4 at *
      clear hmj hown3 hJ3 hK3 hol hAt3 hgl hK4 HJ' HP2 HP1 HD HAS
      go_wp2_with (at_builtin; refine wpList_copy_run _ rfl _ _ 25 25 rfl _ _ rfl rfl (hcp _) ?_)
      go_ret
      exact ⟨o, na + nb + no, congrArg (fun x => Ending.returned (zV x)) (wrap_sum na nb no), HP3.out⟩
end Go.Proofs.Ytgemkmpepnaoiaa
