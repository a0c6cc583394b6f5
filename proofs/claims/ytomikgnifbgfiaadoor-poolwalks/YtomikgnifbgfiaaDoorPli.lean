/-
  whole: does a pool go over just the taken places of the document's?
-/
import Derived.Test.YtomikgnifbgfiaaDoorPlh
import Derived.Test.YtomikgnifbgfiaaDoorPNil
namespace Go.Proofs.YtomikgnifbgfiaaDoor
open Go.RowKit Go.Shelf

attribute [local go_sem] Oper.semAt_some

theorem entsTo_prefix (l : List (Option Int)) (j k : Nat) : entsTo l j <+: entsTo l (j + k) := by
  induction k with
  | zero => exact List.prefix_refl _
  | succ k ih =>
    rw [← Nat.add_assoc, entsTo_succ]
    exact ih.trans (List.prefix_append _ _)
/-- What stands in a box of a number. -/
def numAt (w : World) (A : Nat) : Nat := match w.cell? ⟨A, 0, none⟩ with
  | some (.int _ n) => n.toNat
  | _ => 0
theorem numAt_of {w : World} {A : Nat} {t : TypeId} {k : Nat} (h : Boxed w A t (.int .i64 (k : Int))) : numAt w A = k := by
  simp [numAt, h.cell]
theorem not_next {l : List (Option Int)} {pre : List (Nat × Int)} {j : Nat} {y : Int} (hj : j < l.length) (h : entsTo l (j + 1) = pre ++ [(j, y)]) {x : Nat × Int} (hx : x ≠ (j, y)) : ¬ (pre ++ [x]) <+: ents l := by
  intro hp
  have h1 : (pre ++ [(j, y)]) <+: ents l := by
    rw [← h]
    obtain ⟨d, hd⟩ := Nat.exists_eq_add_of_le (show j + 1 ≤ l.length from hj)
    unfold ents
    rw [hd]
    exact entsTo_prefix l (j + 1) d
  have h2 := List.prefix_of_prefix_length_le hp h1 (by simp)
  have h3 := h2.eq_of_length (by simp)
  have h4 := List.append_cancel_left h3
  exact hx (by simpa using h4)
theorem RefAt.below {w W : World} {v : Value} {l : List (Option Int)} (h : RefAt w v l) (hb : Below w.heap.size w W) : RefAt W v l := h.fresh (Fresh.of hb)

set_option maxRecDepth 100000 in
set_option maxHeartbeats 4000000 in
theorem whole_any (F : Nat → Prop) (b : Nat) (v : Value) (l : List (Option Int)) (w : World) (h : PoolAt w F b l) (hr : RefAt w v l) :
    Calls Tryd.prog 12 #[.pointer (some ⟨b, 0, none⟩), v] w fun e w' => e = .returned (.bool true) ∧ Fresh w w' := by
  have hef := eql_func
  obtain ⟨ao, cap, hv⟩ := slice_shape hr.1
  have hll := hr.2
  have HR : Hid (RefAt w v l) := hr
  have HP : Hid (PoolAt w F b l) := h
  clear hr h
  subst hv
  refine (callsIn_wide (n := 10)).1 ?_
  refine callsIn_of_wp_marks Tryd.func12 rfl trivial ?_ rfl
  simp only [Tryd.ntmps12, List.size_toArray, List.length_cons, List.length_nil, Nat.reduceAdd, Nat.reduceSub, Array.replicate_succ, Array.replicate_zero, List.push_toArray, List.append_toArray, List.nil_append, List.cons_append]
  gi_wp2_with fail
  refine ⟨trivial, ?_⟩
  have hF0 : Fresh w ((w.alloc (.cells #[.slice ao l.length cap] 24)).alloc (.cells #[.bool false] 4)) := ((Kept.refl _ w).alloc _).alloc _
  refine (callsIn_wide.2 (all_any F b l _ (HP.out.kept hF0 (fun _ _ e => e)))).mono ?_
  rintro e X ⟨B, rfl, hA, hkX⟩
  have hFX : Fresh w X := hF0.trans hkX (fun _ _ e => e)
  have bL : Boxed X w.heap.size 24 (.slice ao l.length cap) := hkX.at ((Boxed.new w 24 (.slice ao l.length cap)).alloc _) (fun e => e)
  have bR : Boxed X (w.heap.size + 1) 4 (.bool false) := hkX.at (by have := Boxed.new (w.alloc (.cells #[.slice ao l.length cap] 24)) 4 (.bool false); rwa [World.size_alloc] at this) (fun e => e)
  have hsX : w.heap.size + 2 ≤ X.heap.size := by have := hkX.size; simp at this; omega
  have hA' : AllAt (w.heap.size + 2) X B (ents l) := by simpa using hA
  have hFW : Fresh w (X.alloc (.cells #[.int .i64 0] 3)) := hFX.alloc _
  have bA := Boxed.new X 3 (.int .i64 0)
  have bL' := bL.alloc (.cells #[.int .i64 0] 3)
  have bR' := bR.alloc (.cells #[.int .i64 0] 3)
  have hAW := hA'.kept ((Kept.refl (fun _ => False) X).alloc (.cells #[.int .i64 0] 3)) (fun _ _ _ e => e)
  have hBX : B < X.heap.size := let ⟨_, _, h2, _⟩ := hA'; lt_of_heap h2
  have hvX : ∀ vv, X.ownsRow (w.heap.size + 2) 93 2 vv (ents l).length (eV (ents l)) → ∀ g, vv.ownBlock = some g → w.heap.size + 2 ≤ g ∧ g < X.heap.size := fun vv hh g e => hh.lt g e
  obtain ⟨hB2, vv, hb1, hb2⟩ := hA'
  have hgv := hvX vv hb2
  have hn0 : (ents l).length ≤ 65536 := Nat.le_trans (entsTo_le l _) hll
  have hb1' := ((Kept.refl (fun _ => False) X).alloc (.cells #[.int .i64 0] 3)).at hb1 (fun e => e)
  have hb2' := owns_base (hb2.alloc (.cells #[.int .i64 0] 3))
  have hBelow := Fresh.below hFW
  have hszW : (X.alloc (.cells #[.int .i64 0] 3)).heap.size = X.heap.size + 1 := by simp
  clear hA hkX hF0 hFX bL bR hAW hvX hb1 hb2 hFW
  gi_wp2
  generalize hW0 : X.alloc (.cells #[.int .i64 0] 3) = W0 at *
  clear hW0
  generalize X.heap.size = A at *
  have hkp : ∀ (W : World) (k : Nat) (u : Value), k ≠ B → (∀ g, vv.ownBlock = some g → g ≠ k) → Kp B vv W (W.setCell ⟨k, 0, none⟩ u) := fun W k u h1 h2 => ⟨Below.heap_setCell _ _ _ _ h1.symm, fun g e => Below.heap_setCell _ _ _ _ (h2 g e)⟩
  have hkA : ∀ (W : World) (u : Value), Kp B vv W (W.setCell ⟨A, 0, none⟩ u) := fun W u => hkp W A u (by omega) (fun g e => by have := hgv g e; omega)
  have hkR : ∀ (W : World) (u : Value), Kp B vv W (W.setCell ⟨w.heap.size + 1, 0, none⟩ u) := fun W u => hkp W _ u (by omega) (fun g e => by have := hgv g e; omega)
  refine wpIn_rangeFunc_ownH (F := Fence.wide) rfl (by omega) (gf := 42) (lb := #[.pointer (some ⟨B, 0, none⟩)]) rfl trivial (enters_of Tryd.func42 (by kernel_rfl) rfl)
    (iter_stops Fence.wide 9 trivial rfl (by omega) B vv (ents l) hn0 W0 hb1' hb2') Kp.trans (fun W l' o o' hl' _ _ _ => ⟨World.putObj_heap_other (by omega), fun g e => World.putObj_heap_other (by have := hgv g e; omega)⟩) (Below.refl _ _) (fun _ => rfl)
    (fun pre W => (((∃ k : Nat, (k ≤ l.length ∧ entsTo l k = pre) ∧ Boxed W A 3 (.int .i64 (k : Int))) ∧ Boxed W w.heap.size 24 (.slice ao l.length cap)) ∧ Boxed W (w.heap.size + 1) 4 (.bool false)) ∧ Below w.heap.size w W)
    (fun c pre W => c = .ret ∧ ¬ pre <+: ents l)
    (OwnFrom.and (OwnFrom.and (OwnFrom.and (fun s' X' Y' row hs hg hr => let ⟨k, hk, hb⟩ := hs; ⟨k, hk, Own.from (boxed_own A 3 (fun (_ : List (Nat × Int)) => Value.int .i64 (k : Int))) W0.heap.size s' X' Y' row hb hg hr⟩) (Own.from (boxed_own _ _ _) _)) (Own.from (boxed_own _ _ _) _)) (ownFrom_below (Nat.le_refl _) (by omega)))
    (fun _ _ _ _ _ hs _ _ => hs) ⟨⟨⟨⟨0, ⟨Nat.zero_le _, rfl⟩, bA⟩, bL'⟩, bR'⟩, hBelow⟩
    (fun x a' _ => a' = { tmps := #[.pointer (some ⟨b, 0, none⟩), .slice ao l.length cap, undef, .pointer (some ⟨w.heap.size, 0, none⟩), .pointer (some ⟨w.heap.size + 1, 0, none⟩), .func (.func 42) #[] #[.pointer (some ⟨B, 0, none⟩)], .pointer (some ⟨A, 0, none⟩), .int .i64 (x.1 : Int), .int .i64 x.2, .pointer (some ⟨b, 0, none⟩), .func (.func 42) #[] #[.pointer (some ⟨B, 0, none⟩)], .func (.func 42) #[] #[.pointer (some ⟨B, 0, none⟩)], .bool false, .func (.func 42) #[] #[.pointer (some ⟨B, 0, none⟩)], .int .i64 (x.1 : Int), .int .i64 x.2, undef, undef, undef, undef, undef, undef, undef, undef, undef, undef, undef, undef, undef, undef, undef, undef, undef, undef, undef, undef, undef, undef, undef, undef, undef, undef, undef, undef, undef, undef, undef, undef, undef, undef, undef, undef, undef, undef, undef, undef, undef, undef, undef, undef, undef, undef, undef, undef, undef, undef, undef, undef], defers := [] }) (fun _ _ _ _ _ _ hs _ _ => hs) ?assign ?body ?done ?stop
  case assign =>
    rintro l' pre x W K hi hK
    gi_wp2
    exact hK _ _ (KeepsFrom.refl _ _) (Kp.refl _ _ _) hi rfl
  case body =>
    rintro l' pre ⟨x1, x2⟩ a' W hl' _ ⟨⟨⟨⟨k, ⟨hk, hpre⟩, bA1⟩, bL1⟩, bR1⟩, hB1⟩ rfl hlt
    dsimp only
    gi_wp2
    gi_loopw [16] (fun _ wr => ∃ j : Nat, ((k ≤ j ∧ j ≤ l.length) ∧ entsTo l j = pre) ∧ Boxed wr A 3 (.int .i64 (j : Int)) ∧ Boxed wr w.heap.size 24 (.slice ao l.length cap) ∧ Boxed wr (w.heap.size + 1) 4 (.bool false) ∧ Below w.heap.size w wr ∧ KeepsFrom W0.heap.size W wr ∧ Kp B vv W wr) (fun _ wr => l.length - numAt wr A)
    case atStart => exact ⟨k, ⟨⟨Nat.le_refl _, hk⟩, hpre⟩, bA1, bL1, bR1, hB1, KeepsFrom.refl _ _, Kp.refl _ _ _⟩
    case round =>
      obtain ⟨j, ⟨⟨hkj, hj⟩, hpj⟩, bA2, bL2, bR2, hB2', hKF, hKp⟩ := hrel
      clear bA1 bL1 bR1 hB1 hpre
      have cA := bA2.cell
      have cL := bL2.cell
      have cR := bR2.cell
      have fA := bA2.frozen
      have fR := bR2.frozen
      have hnum := numAt_of bA2
      have hjl : j < l.length := by
        apply Classical.byContradiction
        intro hn
        have e : j = l.length := by omega
        rw [e] at hpj
        have : pre.length = (ents l).length := by rw [← hpj]; rfl
        omega
      obtain ⟨g, cp, hv, c0, c1⟩ := (HR.out.below hB2').at hjl
      cases hv
      have hsucc := entsTo_succ l j
      cases ho : l.getD j none with
      | none =>
        rw [ho, hpj] at hsucc
        simp only [List.append_nil] at hsucc
        rw [ho] at c0
        simp only [Option.isSome_none] at c0
        have HS : Hid (entsTo l (j + 1) = pre) := hsucc
        clear hsucc ho c1
        gi_wp2
        go_roundw
        case rel => exact ⟨j + 1, ⟨⟨by omega, by omega⟩, HS.out⟩, bA2.set _, bL2.other (by omega) _, bR2.other (by omega) _, hB2'.setCell (p := ⟨A, 0, none⟩) (by show _ ≤ A; omega) _, hKF.trans ((KeepsOthers.setCell _ _ _).from _), hKp.trans (hkA _ _)⟩
        case measure =>
          rw [show (j : Int) + 1 = ((j + 1 : Nat) : Int) by omega, numAt_of (k := j + 1) (bA2.set _), hnum]
          omega
      | some y =>
        rw [ho, hpj] at hsucc
        rw [ho] at c0 c1
        simp only [Option.isSome_some, Option.getD_some] at c0 c1 hsucc
        have HS : Hid (entsTo l (j + 1) = pre ++ [(j, y)]) := hsucc
        clear hsucc ho
        by_cases e1 : x1 = j
        · subst e1
          by_cases e2 : x2 = y
          · subst e2
            gi_wp2
            exact ⟨hKF.trans ((KeepsOthers.setCell _ _ _).from _), hKp.trans (hkA _ _), ⟨⟨⟨x1 + 1, ⟨by omega, HS.out⟩, bA2.set _⟩, bL2.other (by omega) _⟩, bR2.other (by omega) _⟩, hB2'.setCell (p := ⟨A, 0, none⟩) (by show _ ≤ A; omega) _⟩
          · have e3 : (x2 == y) = false := by simp [e2]
            have HN : Hid (¬ (pre ++ [(x1, x2)]) <+: ents l) := not_next hjl HS.out (fun e => e2 (Prod.mk.inj e).2)
            gi_wp2
            · exact ⟨hKF.trans ((KeepsOthers.setCell _ _ _).from _), rfl, HN.out⟩
            · rename_i hh
              exact absurd hh.2 (by simp [e2])
        · have e3 : ((x1 : Int) == (j : Int)) = false := by simp; omega
          have HN : Hid (¬ (pre ++ [(x1, x2)]) <+: ents l) := not_next hjl HS.out (fun e => e1 (Prod.mk.inj e).1)
          gi_wp2
          exact ⟨hKF.trans ((KeepsOthers.setCell _ _ _).from _), rfl, HN.out⟩
  case done =>
    rintro D xs W hD rfl ⟨⟨⟨⟨k, ⟨hk, hpre⟩, bA1⟩, bL1⟩, bR1⟩, hB1⟩ hK
    gi_wp2
    gi_loopw [50] (fun _ wr => ∃ j : Nat, (j ≤ l.length ∧ entsTo l j = ents l) ∧ Boxed wr A 3 (.int .i64 (j : Int)) ∧ Boxed wr w.heap.size 24 (.slice ao l.length cap) ∧ Boxed wr (w.heap.size + 1) 4 (.bool false) ∧ Below w.heap.size w wr ∧ wr.heap[D]? = some (.deferred (some []))) (fun _ wr => l.length - numAt wr A)
    case atStart => exact ⟨k, ⟨hk, hpre⟩, bA1, bL1, bR1, hB1, hK⟩
    case round =>
      obtain ⟨j, ⟨hj, hpj⟩, bA2, bL2, bR2, hB2', hKD⟩ := hrel
      clear bA1 bL1 bR1 hB1 hpre hK
      have cA := bA2.cell
      have cL := bL2.cell
      have cR := bR2.cell
      have fA := bA2.frozen
      have fR := bR2.frozen
      have hnum := numAt_of bA2
      by_cases hjl : j < l.length
      · obtain ⟨g, cp, hv, c0, c1⟩ := (HR.out.below hB2').at hjl
        cases hv
        have hsucc := entsTo_succ l j
        have ho : l.getD j none = none := by
          cases ho : l.getD j none with
          | none => rfl
          | some y =>
            rw [ho] at hsucc
            have h1 := entsTo_prefix l (j + 1) (l.length - (j + 1))
            rw [show j + 1 + (l.length - (j + 1)) = l.length by omega, hsucc] at h1
            have h2 := h1.length_le
            have h3 : (entsTo l j).length = (entsTo l l.length).length := by rw [hpj]; rfl
            simp at h2
            omega
        rw [ho, hpj] at hsucc
        simp only [List.append_nil] at hsucc
        rw [ho] at c0
        simp only [Option.isSome_none] at c0
        have HS : Hid (entsTo l (j + 1) = ents l) := hsucc
        clear hsucc ho c1
        gi_wp2
        go_roundw
        case rel => exact ⟨j + 1, ⟨by omega, HS.out⟩, bA2.set _, bL2.other (by omega) _, bR2.other (by omega) _, hB2'.setCell (p := ⟨A, 0, none⟩) (by show _ ≤ A; omega) _, (KeepsOthers.setCell _ _ _).same D _ hKD rfl⟩
        case measure =>
          rw [show (j : Int) + 1 = ((j + 1 : Nat) : Int) by omega, numAt_of (k := j + 1) (bA2.set _), hnum]
          omega
      · obtain rfl : j = l.length := by omega
        gi_wp2
        have hK' := (KeepsOthers.setCell wr ⟨w.heap.size + 1, 0, none⟩ (.bool true)).same D _ hKD rfl
        refine ⟨by simp, .inl ⟨_, _, rfl, run_takeDeferred hK', ?_⟩⟩
        have hc5 := cell_kept (bR2.set (.bool true)).cell (grownBy_putObj' _ D (.deferred none)) (fun r e => by cases e; exact ⟨_, hK', rfl⟩)
        refine ⟨.bool true, ?_, rfl, Fresh.of ((hB2'.setCell (p := ⟨w.heap.size + 1, 0, none⟩) (by simp) _).trans (belowK_b (w := w) (Nat.le_refl _) _ D _ _ (by omega) hK' rfl rfl))⟩
        simp [results, Tryd.f12, go_sem, hc5]
  case stop =>
    rintro D c pre W hD hpre ⟨_, hne⟩ hK
    exact absurd hpre hne
end Go.Proofs.YtomikgnifbgfiaaDoor
