/-
  Check.
-/
import Derived.Test.YtdponkpgokncdaaVor
namespace Go.Proofs.Ytdponkpgokncdaa
open Go.RowKit Go.Lib Go.Maps

/-- What Check answers. -/
def vcP (T : List (List UInt8)) (M : List Mg) : Int := if wrT T ≠ -1 then wrT T else if wrM T M ≠ -1 then wrM T M else 0
def vcE (T : List (List UInt8)) (M : List Mg) : Int := if wrT T ≠ -1 then 130 else if wrM T M ≠ -1 then 131 else 0
theorem fdF_all {f : Nat → Bool} {n : Nat} (h : fdF f n = none) : ∀ i, i < n → f i = false := fun i hi => by
  unfold fdF at h
  have := List.find?_eq_none.1 h i (List.mem_range.2 hi)
  simpa using this
theorem wrT_good {T : List (List UInt8)} (h : wrT T = -1) : T.length ≤ 512 ∧ 2 ≤ T.length ∧ ∀ i, i < T.length → bdT T i = false := by
  unfold wrT at h
  split at h
  · omega
  · split at h
    · omega
    · rename_i e
      split at h
      · omega
      · exact ⟨by omega, by omega, fdF_all e⟩
theorem bdT_false {T : List (List UInt8)} {i : Nat} (h : bdT T i = false) : (∀ j, j < i → gT T j ≠ gT T i) ∧ (i = 0 ↔ gT T i = []) ∧ (gT T i).length ≤ 64 := by
  unfold bdT at h
  simp only [Bool.or_eq_false_iff, List.any_eq_false, List.mem_range, decide_eq_false_iff_not, Nat.not_lt] at h
  obtain ⟨⟨h1, h2⟩, h3⟩ := h
  refine ⟨fun j hj e => h1 j hj (by simpa using e), ?_, h3⟩
  have h2' : (i == 0) = (gT T i == []) := by simpa using h2
  constructor
  · intro e
    have : (gT T i == []) = true := by rw [← h2']; simpa using e
    simpa using this
  · intro e
    have : (i == 0) = true := by rw [h2']; simpa using e
    simpa using this
theorem wrM_good {T : List (List UInt8)} {M : List Mg} (h : wrM T M = -1) : M.length ≤ 1024 ∧ ∀ i, i < M.length → bdM T M i = false := by
  unfold wrM at h
  split at h
  · omega
  · split at h
    · omega
    · rename_i e; exact ⟨by omega, fdF_all e⟩
theorem fiB_true {T : List (List UInt8)} {m : Mg} (h : fiB T m = true) : (1 ≤ m.l ∧ m.l < (T.length : Int)) ∧ (1 ≤ m.r ∧ m.r < (T.length : Int)) ∧ (1 ≤ m.o ∧ m.o < (T.length : Int)) ∧ gT T m.o.toNat = gT T m.l.toNat ++ gT T m.r.toNat := by
  unfold fiB tkB at h
  simp only [Bool.and_eq_true, decide_eq_true_eq, beq_iff_eq] at h
  exact ⟨h.1.1.1, h.1.1.2, h.1.2, h.2⟩
theorem bdM_false {T : List (List UInt8)} {M : List Mg} {i : Nat} (h : bdM T M i = false) : (∀ j, j < i → ¬ ((gM M j).l = (gM M i).l ∧ (gM M j).r = (gM M i).r)) ∧ fiB T (gM M i) = true := by
  unfold bdM at h
  simp only [Bool.or_eq_false_iff, List.any_eq_false, List.mem_range, Bool.not_eq_false', decide_eq_true_eq] at h
  exact ⟨fun j hj e => h.1 j hj e, h.2⟩
theorem good_64 {T : List (List UInt8)} (h : wrT T = -1) : ∀ i, i < T.length → (gT T i).length ≤ 64 := fun i hi => (bdT_false ((wrT_good h).2.2 i hi)).2.2
set_option maxHeartbeats 1000000 in
set_option maxRecDepth 100000 in
theorem vcheck_any {p : Nat → Prop} (X : World) (tv mv : Value) (T : List (List UInt8)) (M : List Mg) (hT : TxR p X tv T) (hM : MgR p X mv M) :
    Calls Try.prog 36 #[.agg #[tv, mv]] X fun e X' => e = .returned (.tuple #[zV (vcP T M), zV (vcE T M)]) ∧ Fresh X X' := by
  have HF1 : Hid (Fresh X (X.alloc (.cells #[tv, mv] 49))) := (Kept.refl _ X).alloc _
  have hb0 : (X.alloc (.cells #[tv, mv] 49)).cell? ⟨X.heap.size, 0, none⟩ = some tv := by rw [World.cell?_alloc_new]; rfl
  have HB : Hid (∀ w, Fresh (X.alloc (.cells #[tv, mv] 49)) w → w.cell? ⟨X.heap.size, 0, none⟩ = some tv ∧ w.cell? ⟨X.heap.size, 1, none⟩ = some mv) := fun w hk => by
    have hz : X.heap.size < (X.alloc (.cells #[tv, mv] 49)).heap.size := by rw [World.size_alloc]; omega
    exact ⟨(hk.cell (p := ⟨X.heap.size, 0, none⟩) hz (fun e => e)).trans (by rw [World.cell?_alloc_new]; rfl), (hk.cell (p := ⟨X.heap.size, 1, none⟩) hz (fun e => e)).trans (by rw [World.cell?_alloc_new]; rfl)⟩
  have HC1 : Hid (∀ w, Fresh X w → Calls Try.prog 47 #[tv] w fun e X' => e = .returned (zV (wrT T)) ∧ Fresh w X') := fun w hk => wrongText_any w tv T (hT.fresh hk)
  have HC2 : Hid (wrT T = -1 → ∀ w, Fresh X w → Calls Try.prog 48 #[.agg #[tv, mv]] w fun e X' => e = .returned (zV (wrM T M)) ∧ Fresh w X') := fun hg w hk => wrongMerge_any w tv mv T M (hT.fresh hk) (hM.fresh hk) (good_64 hg)
  obtain ⟨ta, tc, rfl⟩ := hT.shape
  obtain ⟨ma, mc, rfl⟩ := hM.shape
  have HP : Hid (vcP T M = if wrT T ≠ -1 then wrT T else if wrM T M ≠ -1 then wrM T M else 0) := rfl
  have HE : Hid (vcE T M = if wrT T ≠ -1 then 130 else if wrM T M ≠ -1 then 131 else 0) := rfl
  generalize vcP T M = P at *
  generalize vcE T M = E at *
  clear hT hM
  generalize T.length = tn at *
  generalize M.length = mn at *
  generalize hX1 : X.alloc (.cells #[.slice ta tn tc, .slice ma mn mc] 49) = X1 at *
  have HCall := show Hid _ from HC1.out X1 HF1.out
  clear HC1
  generalize hwt : wrT T = wt at *
  go_enter Try.func36, Try.ntmps36
  go_wp2_with fail
  refine Calls.mono HCall.out ?_
  rintro e W2 ⟨rfl, hF2⟩
  have HF2 : Hid (Fresh X W2) := HF1.out.trans hF2 (fun _ _ e => e)
  obtain ⟨x0, x1⟩ := HB.out W2 hF2
  clear HCall hF2 hb0
  by_cases h1 : wt = -1
  · have HC3 := show Hid _ from HC2.out h1 W2 HF2.out
    rw [if_neg (by simpa using h1)] at HP HE
    clear HC2
    subst h1
    generalize hwm : wrM T M = wm at *
    go_wp2_with fail
    refine Calls.mono HC3.out ?_
    rintro e W3 ⟨rfl, hF3⟩
    have HF3 : Hid (Fresh X W3) := HF2.out.trans hF3 (fun _ _ e => e)
    clear HC3 hF3
    by_cases h2 : wm = -1
    · rw [if_neg (by simpa using h2)] at HP HE
      subst h2
      go_wp2
      go_ret2
      exact ⟨by rw [HP.out, HE.out]; rfl, HF3.out⟩
    · rw [if_pos h2] at HP HE
      have h2' : (wm == -1) = false := by simpa using h2
      go_wp2
      go_ret2
      exact ⟨by rw [HP.out, HE.out]; rfl, HF3.out⟩
  · rw [if_pos h1] at HP HE
    have h1' : (wt == -1) = false := by simpa using h1
    clear HC2
    go_wp2
    go_ret2
    exact ⟨by rw [HP.out, HE.out]; rfl, HF2.out⟩

theorem vcE_zero {T : List (List UInt8)} {M : List Mg} (h : vcE T M = 0) : wrT T = -1 ∧ wrM T M = -1 := by
  unfold vcE at h
  split at h
  · omega
  · rename_i h1
    split at h
    · omega
    · rename_i h2; exact ⟨by simpa using h1, by simpa using h2⟩
end Go.Proofs.Ytdponkpgokncdaa
