/-
  Add, the package's and the document's.
-/
import Derived.Test.YtjffiojjjmecgaaVcu
import Derived.Test.YtjffiojjjmecgaaFwa
namespace Go.Proofs.Ytjffiojjjmecgaa
open Go.RowKit Go.Lib Go.Maps

set_option maxHeartbeats 1000000 in
theorem alike64_any (ao bo : Option Addr) (n m c d : Nat) (w : World) : Calls Try.prog 41 #[.slice ao n c, .slice bo m d] w fun e w' => e = .returned (zV (aE n m)) ∧ w' = w := by
  have HB : Hid (∀ (ao : Option Addr) (n c : Nat), _) := fun ao n c => bounded64_any ao n c w
  have HBB : Hid (Calls Try.prog 57 #[.slice ao n c, .slice bo m d] w fun e w' => e = .returned (zV (if 1048576 < n ∨ 1048576 < m then 81 else 0)) ∧ w' = w) := by
    by_cases h : 1048576 < n
    · have h1 := HB.out ao n c
      rw [bE_many h] at h1
      have H1 : Hid (Unit → _) := fun (_ : Unit) => h1
      clear h1 HB
      show Calls _ _ _ _ _
      rw [if_pos (.inl h)]
      go_enter Try.func57, Try.ntmps57
      go_wp2_with fail
      refine (H1.out ()).mono ?_
      rintro e w1 ⟨rfl, rfl⟩
      go_wp2
      go_ret
      exact ⟨rfl, rfl⟩
    · have h1 := HB.out ao n c
      rw [bE_ok (by omega)] at h1
      have H1 : Hid (Unit → _) := fun (_ : Unit) => h1
      have H2 : Hid (Unit → _) := fun (_ : Unit) => HB.out bo m d
      have H3 : Hid ((if 1048576 < n ∨ 1048576 < m then (81 : Int) else 0) = bE m) := by
        show _ = _
        unfold bE
        simp only [show (1048576 < n ∨ 1048576 < m) ↔ 1048576 < m from ⟨fun e => e.resolve_left h, .inr⟩]
      clear h1 HB
      show Calls _ _ _ _ _
      rw [H3.out]
      go_enter Try.func57, Try.ntmps57
      go_wp2_with fail
      refine (H1.out ()).mono ?_
      rintro e w1 ⟨rfl, rfl⟩
      go_wp2_with fail
      refine (H2.out ()).mono ?_
      rintro e w1 ⟨rfl, rfl⟩
      go_wp2
      go_ret
      exact ⟨rfl, rfl⟩
  have hbb := HBB.out
  unfold aE
  clear HBB HB
  by_cases h : 1048576 < n ∨ 1048576 < m
  · rw [if_pos h] at hbb ⊢
    have H : Hid (Unit → _) := fun (_ : Unit) => hbb
    clear hbb h
    go_enter Try.func41, Try.ntmps41
    go_wp2_with fail
    refine (H.out ()).mono ?_
    rintro e w1 ⟨rfl, rfl⟩
    go_wp2
    go_ret
    exact ⟨rfl, rfl⟩
  · rw [if_neg h] at hbb ⊢
    have H : Hid (Unit → _) := fun (_ : Unit) => hbb
    clear hbb
    by_cases hn : n = m
    · rw [if_neg (by omega)]
      subst hn
      go_enter Try.func41, Try.ntmps41
      go_wp2_with fail
      refine (H.out ()).mono ?_
      rintro e w1 ⟨rfl, rfl⟩
      go_wp2
      go_ret
      exact ⟨rfl, rfl⟩
    · rw [if_pos hn]
      have hn' : ¬ (n : Int) = (m : Int) := by omega
      go_enter Try.func41, Try.ntmps41
      go_wp2_with fail
      refine (H.out ()).mono ?_
      rintro e w1 ⟨rfl, rfl⟩
      go_wp2
      go_ret
      exact ⟨rfl, rfl⟩


/-- The sums, place by place. -/
def sumL (a b : List Int) : List Int := List.zipWith (· + ·) a b
theorem sumL_length {a b : List Int} (h : a.length = b.length) : (sumL a b).length = a.length := by simp [sumL, h]
theorem sumL_get {a b : List Int} {j : Nat} (ha : j < a.length) (hb : j < b.length) : (sumL a b).getD j 0 = a.getD j 0 + b.getD j 0 := by
  rw [getD_getElem (by simp [sumL]; omega), getD_getElem ha, getD_getElem hb]
  simp [sumL]
def okS (l : List Int) : Bool := l.all (fun z => inB z)
/-- What Add answers. -/
def adE (a b : List Int) : Int := if dE a b ≠ 0 then dE a b else if okS (sumL a b) = true then 0 else 82
def adL (a b : List Int) : List Int := if adE a b = 0 then sumL a b else []
theorem adE_bad {a b : List Int} (h : dE a b ≠ 0) : adE a b = dE a b := if_pos h
theorem adE_ok {a b : List Int} (h : dE a b = 0) (ho : okS (sumL a b) = true) : adE a b = 0 := by unfold adE; rw [if_neg (by rw [h]; simp), if_pos ho]
theorem adE_wrap {a b : List Int} (h : dE a b = 0) {j : Nat} (hj : j < (sumL a b).length) (ho : inB ((sumL a b).getD j 0) = false) : adE a b = 82 := by
  unfold adE
  rw [if_neg (by rw [h]; simp), if_neg]
  intro e
  have := List.all_eq_true.1 e ((sumL a b).getD j 0) (by rw [getD_getElem hj]; exact List.getElem_mem hj)
  rw [ho] at this
  cases this
theorem adL_bad {a b : List Int} (h : adE a b ≠ 0) : adL a b = [] := if_neg h
theorem adL_ok {a b : List Int} (h : adE a b = 0) : adL a b = sumL a b := if_pos h
theorem inB_iff {z : Int} : inB z = true ↔ I64 z := by unfold inB I64; simp
theorem adL_i64 (a b : List Int) : ∀ z ∈ adL a b, I64 z := by
  intro z hz
  unfold adL at hz
  split at hz
  · rename_i h
    unfold adE at h
    split at h
    · contradiction
    · split at h
      · rename_i ho
        exact inB_iff.1 (List.all_eq_true.1 ho z hz)
      · cases h
  · cases hz
theorem adL_len (a b : List Int) : (adL a b).length ≤ 1048576 := by
  unfold adL
  split
  · rename_i h
    unfold adE at h
    split at h
    · contradiction
    · rename_i h2
      have := dE_zero (show dE a b = 0 by omega)
      rw [sumL_length this.2]; exact this.1
  · simp
theorem okS_take {l : List Int} {j : Nat} (hj : j < l.length) (h : okS (l.take j) = true) (ho : inB (l.getD j 0) = true) : okS (l.take (j + 1)) = true := by
  unfold okS at *
  rw [take_snocD hj, List.all_append, h]
  simpa using ho

set_option maxHeartbeats 4000000 in
set_option maxRecDepth 100000 in
theorem Add_any (p q : Nat → Prop) (av bv : Value) (a b : List Int) (w : World) (ha : Rk .i64 p w av a) (hb : Rk .i64 q w bv b) :
    Calls Try.prog 25 #[av, bv] w fun e w' => Gives .i64 2 (adL a b) (adE a b) w e w' := by
  obtain ⟨ao, ac, hva, _⟩ := ha.shape
  obtain ⟨bo, bc, hvb, _⟩ := hb.shape
  subst hva
  subst hvb
  have hA := alike64_any ao bo a.length b.length ac bc w
  rw [← dE_aE] at hA
  have HG : Hid (∀ (E : Int) (W : World), Fresh w W → Gives .i64 2 [] E w (.returned (.tuple #[.slice none 0 0, zV E])) W) := fun E W hF => ⟨_, rfl, own_nil _ _ _, hF⟩
  by_cases h0 : dE a b = 0
  · obtain ⟨hm, hl⟩ := dE_zero h0
    have HD : Hid (dE a b = 0) := h0
    rw [h0] at hA
    have HA0 : Hid (Unit → _) := fun (_ : Unit) => hA
    have HI : Hid (∀ i, I64 (a.getD i 0) ∧ I64 (b.getD i 0)) := fun i => ⟨ha.get i, hb.get i⟩
    obtain ⟨n, hn⟩ : ∃ n, a.length = n := ⟨_, rfl⟩
    have HN : Hid (a.length = n ∧ b.length = n ∧ (sumL a b).length = n) := ⟨hn, by omega, by rw [sumL_length hl, hn]⟩
    have hmk := run_mk ty64 n n (Nat.le_refl _) (by simp [kb]; omega) w
    have hO := own_made .i64 2 w w.heap.size (Nat.le_refl _) n n (Nat.le_refl _) (by omega)
    have hF0 : Fresh w (w.alloc (.cells ((List.replicate n (0 : Int)).map (Value.int .i64)).toArray 2)) := (Kept.refl _ w).alloc _
    generalize w.alloc (.cells ((List.replicate n (0 : Int)).map (Value.int .i64)).toArray 2) = W0 at *
    have HO : Hid (W0.ownsRow w.heap.size 2 1 (.slice (some ⟨w.heap.size, 0, none⟩) n n) n (((sumL a b).take 0 ++ List.replicate (n - 0) 0).map zV) ∧ Fresh w W0 ∧ okS ((sumL a b).take 0) = true) := ⟨hO, hF0, rfl⟩
    rw [show b.length = n by omega] at HA0 hb ⊢
    rw [hn] at HA0 ha hm ⊢
    have HC : Hid (0 < n → ∃ b1 off1 b2 off2, ao = some ⟨b1, off1, none⟩ ∧ bo = some ⟨b2, off2, none⟩ ∧ ∀ W, Fresh w W → ∀ i, i < n → W.cell? ⟨b1, off1 + i, none⟩ = some (.int .i64 (a.getD i 0)) ∧ W.cell? ⟨b2, off2 + i, none⟩ = some (.int .i64 (b.getD i 0))) := fun hp => by
      obtain ⟨b1, off1, e1, _, k1, c1⟩ := ha.cells.2.2.2 hp
      obtain ⟨b2, off2, e2, _, k2, c2⟩ := hb.cells.2.2.2 hp
      exact ⟨b1, off1, b2, off2, e1, e2, fun W hF i hi => ⟨(hF.cell (p := ⟨b1, off1 + i, none⟩) k1 (fun e => e)).trans (c1 i hi), (hF.cell (p := ⟨b2, off2 + i, none⟩) k2 (fun e => e)).trans (c2 i hi)⟩⟩
    clear hA ha hb hO hF0 h0 hn hl
    go_enter Try.func25, Try.ntmps25
    go_wp2_with fail
    refine (HA0.out ()).mono ?_
    rintro e w1 ⟨rfl, hw1⟩
    have hw2 := hw1.symm
    subst hw2
    clear hw1 HA0
    go_wp2
    clear hmk
    go_loopw [23] (fun iv wr => ∃ j : Nat, j ≤ n ∧ iv = zV j ∧ Hid (wr.ownsRow w.heap.size 2 1 (.slice (some ⟨w.heap.size, 0, none⟩) n n) n (((sumL a b).take j ++ List.replicate (n - j) 0).map zV) ∧ Fresh w wr ∧ okS ((sumL a b).take j) = true)) (fun iv _ => n - (RowKit.intOf iv).toNat)
    case atStart => exact ⟨0, Nat.zero_le _, rfl, HO.out⟩
    case round =>
      obtain ⟨j, hj, rfl, HA⟩ := hrel
      clear HO
      by_cases hlt : j < n
      · obtain ⟨b1, off1, b2, off2, rfl, rfl, hcell⟩ := HC.out (by omega)
        obtain ⟨g1, g2⟩ := hcell wr HA.out.2.1 j hlt
        have hlt' : (j : Int) < (n : Int) := by omega
        have hjs : j < (sumL a b).length := by rw [HN.out.2.2]; exact hlt
        have hsg : (sumL a b).getD j 0 = a.getD j 0 + b.getD j 0 := sumL_get (by rw [HN.out.1]; exact hlt) (by rw [HN.out.2.1]; exact hlt)
        have HCall : Hid (Unit → _) := fun (_ : Unit) => add_any (a.getD j 0) (b.getD j 0) wr (HI.out j).1 (HI.out j).2
        have hpl : ((sumL a b).take j).length = j := by rw [List.length_take]; omega
        have HSt : Hid ((sumL a b).take (j + 1) = (sumL a b).take j ++ [a.getD j 0 + b.getD j 0]) := by show _ = _; rw [take_snocD hjs, hsg]
        have HOk : Hid (inB (a.getD j 0 + b.getD j 0) = true → okS ((sumL a b).take (j + 1)) = true) := fun h => okS_take hjs HA.out.2.2 (by rw [hsg]; exact h)
        have HWr : Hid (inB (a.getD j 0 + b.getD j 0) = false → adE a b = 82) := fun h => adE_wrap HD.out hjs (by rw [hsg]; exact h)
        clear hcell hjs hsg
        generalize a.getD j 0 = x at *
        generalize b.getD j 0 = y at *
        by_cases hin : I64 (x + y)
        · obtain ⟨e1, e2⟩ := in_in hin
          rw [e1, e2] at HCall
          have HOk2 : Hid (okS ((sumL a b).take (j + 1)) = true) := HOk.out e2
          generalize x + y = Z at *
          clear e1 e2 HOk HWr hin
          go_wp2_with fail
          refine (HCall.out ()).mono ?_
          rintro e w3 ⟨rfl, d3, hw3⟩
          have hO3 : w3.ownsRow w.heap.size 2 1 (.slice (some ⟨w.heap.size, 0, none⟩) n n) n (((sumL a b).take j ++ List.replicate (n - j) 0).map zV) ∧ Fresh w w3 := by rw [hw3]; exact ⟨HA.out.1, HA.out.2.1.drewN d3⟩
          have f3 := own_frozen hO3.1 j
          have g3 := own_get hO3.1 j hlt
          have HX : Hid ((w3.setCell ⟨w.heap.size, j, none⟩ (zV Z)).ownsRow w.heap.size 2 1 (.slice (some ⟨w.heap.size, 0, none⟩) n n) n (((sumL a b).take (j + 1) ++ List.replicate (n - (j + 1)) 0).map zV) ∧ Fresh w (w3.setCell ⟨w.heap.size, j, none⟩ (zV Z)) ∧ okS ((sumL a b).take (j + 1)) = true) := by
            refine ⟨?_, hO3.2.setCell (fun e => absurd e (Nat.lt_irrefl _)) _, HOk2.out⟩
            have := own_setB (i := j) (x := zV Z) hO3.1
            rw [← List.map_set, show n - j = (n - (j + 1)) + 1 by omega, set_at hpl] at this
            rw [HSt.out]
            exact this
          clear hO3 HA HCall hw3 hpl HSt HOk2
          go_wp2
          go_roundw
          case rel => exact ⟨j + 1, hlt, by go_num, HX.out⟩
          case measure => simp [RowKit.intOf]; omega
        · obtain ⟨e1, e2⟩ := in_out hin
          rw [e1, e2] at HCall
          have HW2 : Hid (adE a b = 82 ∧ adL a b = []) := ⟨HWr.out e2, adL_bad (by rw [HWr.out e2]; omega)⟩
          have HFr : Hid (Fresh w wr) := HA.out.2.1
          clear e1 e2 HOk HWr hin HA HSt hpl
          go_wp2_with fail
          refine (HCall.out ()).mono ?_
          rintro e w3 ⟨rfl, d3, hw3⟩
          have HF3 : Hid (Fresh w w3) := by show Fresh _ _; rw [hw3]; exact HFr.out.drewN d3
          clear HCall hw3
          go_wp2
          go_ret2
          rw [HW2.out.1, HW2.out.2]
          exact HG.out _ _ HF3.out
      · obtain rfl : j = n := by omega
        have HX : Hid (Gives .i64 2 (adL a b) (adE a b) w (.returned (.tuple #[.slice (some ⟨w.heap.size, 0, none⟩) j j, zV 0])) wr) := by
          have ho := HA.out.2.2
          have hO := HA.out.1
          rw [List.take_of_length_le (by rw [HN.out.2.2]; exact Nat.le_refl _)] at ho hO
          rw [Nat.sub_self, List.replicate_zero, List.append_nil] at hO
          have e0 := adE_ok HD.out ho
          refine ⟨_, by rw [e0], ?_, HA.out.2.1⟩
          rw [adL_ok e0, HN.out.2.2]
          exact hO
        clear HA HC
        go_wp2
        go_ret2
        exact HX.out
  · rw [adE_bad h0, adL_bad (by rw [adE_bad h0]; exact h0)]
    have HA0 : Hid (Unit → _) := fun (_ : Unit) => hA
    have h0' : (dE a b == 0) = false := by simp [h0]
    clear hA ha hb
    go_enter Try.func25, Try.ntmps25
    go_wp2_with fail
    refine (HA0.out ()).mono ?_
    rintro e w1 ⟨rfl, hw1⟩
    have hw2 := hw1.symm
    subst hw2
    clear hw1 HA0
    go_wp2
    go_ret2
    exact HG.out _ _ (Kept.refl _ _)

set_option maxHeartbeats 4000000 in
set_option maxRecDepth 100000 in
theorem refVAdd_any (p q : Nat → Prop) (av bv : Value) (a b : List Int) (w : World) (ha : Rk .i64 p w av a) (hb : Rk .i64 q w bv b) :
    Calls Try.prog 26 #[av, bv] w fun e w' => Gives .i64 2 (adL a b) (adE a b) w e w' := by
  obtain ⟨ao, ac, hva, _⟩ := ha.shape
  obtain ⟨bo, bc, hvb, _⟩ := hb.shape
  subst hva
  subst hvb
  have HG : Hid (∀ (E : Int) (W : World), Fresh w W → Gives .i64 2 [] E w (.returned (.tuple #[.slice none 0 0, zV E])) W) := fun E W hF => ⟨_, rfl, own_nil _ _ _, hF⟩
  by_cases h1 : 1048576 < a.length
  · have HE : Hid (adE a b = 81 ∧ adL a b = []) := by
      have e : dE a b = 81 := dE_many (.inl h1)
      exact ⟨by rw [adE_bad (by rw [e]; omega), e], adL_bad (by rw [adE_bad (by rw [e]; omega), e]; omega)⟩
    rw [HE.out.1, HE.out.2]
    have h1' : (1048576 : Int) < (a.length : Int) := by omega
    clear ha hb
    go_enter Try.func26, Try.ntmps26
    go_wp2
    go_ret2
    exact HG.out _ _ (Kept.refl _ _)
  have h1' : ¬ (1048576 : Int) < (a.length : Int) := by omega
  by_cases h2 : 1048576 < b.length
  · have HE : Hid (adE a b = 81 ∧ adL a b = []) := by
      have e : dE a b = 81 := dE_many (.inr h2)
      exact ⟨by rw [adE_bad (by rw [e]; omega), e], adL_bad (by rw [adE_bad (by rw [e]; omega), e]; omega)⟩
    rw [HE.out.1, HE.out.2]
    have h2' : (1048576 : Int) < (b.length : Int) := by omega
    clear ha hb
    go_enter Try.func26, Try.ntmps26
    go_wp2
    go_ret2
    exact HG.out _ _ (Kept.refl _ _)
  have h2' : ¬ (1048576 : Int) < (b.length : Int) := by omega
  by_cases hl : a.length = b.length
  · have h0 : dE a b = 0 := dE_ok (by omega) hl
    have HD : Hid (dE a b = 0) := h0
    have HI : Hid (∀ i, I64 (a.getD i 0) ∧ I64 (b.getD i 0)) := fun i => ⟨ha.get i, hb.get i⟩
    obtain ⟨n, hn⟩ : ∃ n, a.length = n := ⟨_, rfl⟩
    have HN : Hid (a.length = n ∧ b.length = n ∧ (sumL a b).length = n) := ⟨hn, by omega, by rw [sumL_length hl, hn]⟩
    have HO : Hid ((w.alloc (.cells #[] 2)).ownsRow w.heap.size 2 1 (.slice (some ⟨w.heap.size, 0, none⟩) 0 0) 0 (((sumL a b).take 0).map zV) ∧ Fresh w (w.alloc (.cells #[] 2)) ∧ okS ((sumL a b).take 0) = true) := ⟨own_empty w _ (Nat.le_refl _) _, (Kept.refl _ w).alloc _, rfl⟩
    rw [show b.length = n by omega] at h2 h2' hb ⊢
    rw [hn] at h1 h1' ha ⊢
    have HC : Hid (0 < n → ∃ b1 off1 b2 off2, ao = some ⟨b1, off1, none⟩ ∧ bo = some ⟨b2, off2, none⟩ ∧ ∀ W, Fresh w W → ∀ i, i < n → W.cell? ⟨b1, off1 + i, none⟩ = some (.int .i64 (a.getD i 0)) ∧ W.cell? ⟨b2, off2 + i, none⟩ = some (.int .i64 (b.getD i 0))) := fun hp => by
      obtain ⟨b1, off1, e1, _, k1, c1⟩ := ha.cells.2.2.2 hp
      obtain ⟨b2, off2, e2, _, k2, c2⟩ := hb.cells.2.2.2 hp
      exact ⟨b1, off1, b2, off2, e1, e2, fun W hF i hi => ⟨(hF.cell (p := ⟨b1, off1 + i, none⟩) k1 (fun e => e)).trans (c1 i hi), (hF.cell (p := ⟨b2, off2 + i, none⟩) k2 (fun e => e)).trans (c2 i hi)⟩⟩
    clear ha hb h0 hn hl
    go_enter Try.func26, Try.ntmps26
    go_wp2
    go_loopw [6, 26] (fun ov iv wr => ∃ j g cp : Nat, j ≤ n ∧ iv = zV j ∧ ov = .slice (some ⟨g, 0, none⟩) j cp ∧ Hid (wr.ownsRow w.heap.size 2 1 (.slice (some ⟨g, 0, none⟩) j cp) j (((sumL a b).take j).map zV) ∧ Fresh w wr ∧ okS ((sumL a b).take j) = true)) (fun _ iv _ => n - (RowKit.intOf iv).toNat)
    case atStart => exact ⟨0, w.heap.size, 0, Nat.zero_le _, rfl, rfl, HO.out⟩
    case round =>
      obtain ⟨j, g, cp, hj, rfl, rfl, HA⟩ := hrel
      clear HO
      by_cases hlt : j < n
      · obtain ⟨b1, off1, b2, off2, rfl, rfl, hcell⟩ := HC.out (by omega)
        obtain ⟨g1, g2⟩ := hcell wr HA.out.2.1 j hlt
        have hlt' : (j : Int) < (n : Int) := by omega
        have hjs : j < (sumL a b).length := by rw [HN.out.2.2]; exact hlt
        have hsg : (sumL a b).getD j 0 = a.getD j 0 + b.getD j 0 := sumL_get (by rw [HN.out.1]; exact hlt) (by rw [HN.out.2.1]; exact hlt)
        have HCall : Hid (∀ m, _) := fun m => refAdd_any (a.getD j 0) (b.getD j 0) (wr.drewN m) (HI.out j).1 (HI.out j).2
        have HSt : Hid ((sumL a b).take (j + 1) = (sumL a b).take j ++ [a.getD j 0 + b.getD j 0]) := by show _ = _; rw [take_snocD hjs, hsg]
        have HOk : Hid (inB (a.getD j 0 + b.getD j 0) = true → okS ((sumL a b).take (j + 1)) = true) := fun h => okS_take hjs HA.out.2.2 (by rw [hsg]; exact h)
        have HWr : Hid (inB (a.getD j 0 + b.getD j 0) = false → adE a b = 82) := fun h => adE_wrap HD.out hjs (by rw [hsg]; exact h)
        clear hcell hjs hsg
        generalize a.getD j 0 = x at *
        generalize b.getD j 0 = y at *
        by_cases hin : I64 (x + y)
        · obtain ⟨e1, e2⟩ := in_in hin
          rw [e1, e2] at HCall
          have HOk2 : Hid (okS ((sumL a b).take (j + 1)) = true) := HOk.out e2
          generalize x + y = Z at *
          clear e1 e2 HOk HWr hin
          go_wp2_with fail
          go_quiet ((go_at_call 43; exact Calls.quiet_of (HCall.out _)))
          obtain ⟨w3, hw3⟩ : ∃ w3, w3 = wr.drewN nq := ⟨_, rfl⟩
          rw [← hw3]
          have hO3 : w3.ownsRow w.heap.size 2 1 (.slice (some ⟨g, 0, none⟩) j cp) j (((sumL a b).take j).map zV) ∧ Fresh w w3 := by rw [hw3]; exact ⟨HA.out.1, HA.out.2.1.drewN nq⟩
          obtain ⟨ga, ca, Wa, hra, hoa, hga, hka⟩ := push ty64 w3 w.heap.size g cp j ((sumL a b).take j) Z hO3.1 (by simp [kb]; omega) hO3.2.size
          have hgb := (own_block hO3.1).1
          have HN1 : Hid (Wa.ownsRow w.heap.size 2 1 (.slice (some ⟨ga, 0, none⟩) (j + 1) ca) (j + 1) (((sumL a b).take (j + 1)).map zV) ∧ Fresh w Wa ∧ okS ((sumL a b).take (j + 1)) = true) := ⟨by rw [HSt.out]; exact hoa, hO3.2.trans hka (fun i hi e => by omega), HOk2.out⟩
          clear hO3 HA HCall hw3 hoa hga hka hgb HSt HOk2 g1 g2
          go_wp2_with (at_builtin; refine Lib.wpList_append_run _ rfl _ _ _ _ rfl _ _ rfl rfl _ _ hra ?_)
          go_roundw
          case rel => exact ⟨j + 1, ga, ca, hlt, by go_num, rfl, HN1.out⟩
          case measure => simp [RowKit.intOf]; omega
        · obtain ⟨e1, e2⟩ := in_out hin
          rw [e1, e2] at HCall
          have HW2 : Hid (adE a b = 82 ∧ adL a b = []) := ⟨HWr.out e2, adL_bad (by rw [HWr.out e2]; omega)⟩
          have HFr : Hid (Fresh w wr) := HA.out.2.1
          clear e1 e2 HOk HWr hin HA HSt
          go_wp2_with fail
          go_quiet ((go_at_call 43; exact Calls.quiet_of (HCall.out _)))
          have HF3 : Hid (Fresh w (wr.drewN nq)) := HFr.out.drewN nq
          clear HCall g1 g2
          go_wp2
          go_ret2
          rw [HW2.out.1, HW2.out.2]
          exact HG.out _ _ HF3.out
      · obtain rfl : j = n := by omega
        have HX : Hid (Gives .i64 2 (adL a b) (adE a b) w (.returned (.tuple #[.slice (some ⟨g, 0, none⟩) j cp, zV 0])) wr) := by
          have ho := HA.out.2.2
          have hO := HA.out.1
          rw [List.take_of_length_le (by rw [HN.out.2.2]; exact Nat.le_refl _)] at ho hO
          have e0 := adE_ok HD.out ho
          refine ⟨_, by rw [e0], ?_, HA.out.2.1⟩
          rw [adL_ok e0, HN.out.2.2]
          exact hO
        clear HA HC
        go_wp2
        go_ret2
        exact HX.out
  · have HE : Hid (adE a b = 80 ∧ adL a b = []) := by
      have e : dE a b = 80 := dE_else (by omega) (by omega) hl
      exact ⟨by rw [adE_bad (by rw [e]; omega), e], adL_bad (by rw [adE_bad (by rw [e]; omega), e]; omega)⟩
    rw [HE.out.1, HE.out.2]
    have hl' : ¬ (a.length : Int) = (b.length : Int) := by omega
    clear ha hb
    go_enter Try.func26, Try.ntmps26
    go_wp2
    go_ret2
    exact HG.out _ _ (Kept.refl _ _)
end Go.Proofs.Ytjffiojjjmecgaa
