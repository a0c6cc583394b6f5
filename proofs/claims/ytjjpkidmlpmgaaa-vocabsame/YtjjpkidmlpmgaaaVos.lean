/-
  Check; Encode.
-/
import Derived.Test.YtjjpkidmlpmgaaaVor
namespace Go.Proofs.Ytjjpkidmlpmgaaa
open Go.RowKit Go.Lib Go.Maps

/-- What Check answers. -/
def chP (T : List (List UInt8)) (M : List Mg) : Int := if wrT T ≠ -1 then wrT T else if wrM T M ≠ -1 then wrM T M else 0
def chE (T : List (List UInt8)) (M : List Mg) : Int := if wrT T ≠ -1 then 130 else if wrM T M ≠ -1 then 131 else 0
theorem fdF_all {f : Nat → Bool} {n : Nat} (h : fdF f n = none) : ∀ i, i < n → f i = false := fun i hi => by
  unfold fdF at h
  have := List.find?_eq_none.1 h i (List.mem_range.2 hi)
  simpa using this
theorem wrT_good {T : List (List UInt8)} (h : wrT T = -1) : T.length ≤ 512 ∧ 2 ≤ T.length ∧ ∀ i, i < T.length → bdT T i = false := by
  unfold wrT at h
  split at h
  · omega
  · split at h
    · omega
    · rename_i e
      split at h
      · omega
      · exact ⟨by omega, by omega, fdF_all e⟩
theorem bdT_false {T : List (List UInt8)} {i : Nat} (h : bdT T i = false) : (∀ j, j < i → gT T j ≠ gT T i) ∧ (i = 0 ↔ gT T i = []) ∧ (gT T i).length ≤ 64 := by
  unfold bdT at h
  simp only [Bool.or_eq_false_iff, List.any_eq_false, List.mem_range, decide_eq_false_iff_not, Nat.not_lt] at h
  obtain ⟨⟨h1, h2⟩, h3⟩ := h
  refine ⟨fun j hj e => h1 j hj (by simpa using e), ?_, h3⟩
  have h2' : (i == 0) = (gT T i == []) := by simpa using h2
  constructor
  · intro e
    have : (gT T i == []) = true := by rw [← h2']; simpa using e
    simpa using this
  · intro e
    have : (i == 0) = true := by rw [h2']; simpa using e
    simpa using this
theorem wrM_good {T : List (List UInt8)} {M : List Mg} (h : wrM T M = -1) : M.length ≤ 1024 ∧ ∀ i, i < M.length → bdM T M i = false := by
  unfold wrM at h
  split at h
  · omega
  · split at h
    · omega
    · rename_i e; exact ⟨by omega, fdF_all e⟩
theorem fiB_true {T : List (List UInt8)} {m : Mg} (h : fiB T m = true) : (1 ≤ m.l ∧ m.l < (T.length : Int)) ∧ (1 ≤ m.r ∧ m.r < (T.length : Int)) ∧ (1 ≤ m.o ∧ m.o < (T.length : Int)) ∧ gT T m.o.toNat = gT T m.l.toNat ++ gT T m.r.toNat := by
  unfold fiB tkB at h
  simp only [Bool.and_eq_true, decide_eq_true_eq, beq_iff_eq] at h
  exact ⟨h.1.1.1, h.1.1.2, h.1.2, h.2⟩
theorem bdM_false {T : List (List UInt8)} {M : List Mg} {i : Nat} (h : bdM T M i = false) : (∀ j, j < i → ¬ ((gM M j).l = (gM M i).l ∧ (gM M j).r = (gM M i).r)) ∧ fiB T (gM M i) = true := by
  unfold bdM at h
  simp only [Bool.or_eq_false_iff, List.any_eq_false, List.mem_range, Bool.not_eq_false', decide_eq_true_eq] at h
  exact ⟨fun j hj e => h.1 j hj e, h.2⟩
theorem good_mok {T : List (List UInt8)} {M : List Mg} (h : wrM T M = -1) : Mok M := fun i hi => by
  obtain ⟨a, b, c, _⟩ := fiB_true (bdM_false ((wrM_good h).2 i hi)).2
  exact ⟨a.1, b.1, c.1⟩
theorem good_64 {T : List (List UInt8)} (h : wrT T = -1) : ∀ i, i < T.length → (gT T i).length ≤ 64 := fun i hi => (bdT_false ((wrT_good h).2.2 i hi)).2.2
set_option maxHeartbeats 1000000 in
set_option maxRecDepth 100000 in
theorem check_any {p : Nat → Prop} (X : World) (tv mv : Value) (T : List (List UInt8)) (M : List Mg) (hT : TxR p X tv T) (hM : MgR p X mv M) :
    Calls Try.prog 10 #[.agg #[tv, mv]] X fun e X' => e = .returned (.tuple #[zV (chP T M), zV (chE T M)]) ∧ Fresh X X' := by
  have HF1 : Hid (Fresh X (X.alloc (.cells #[tv, mv] 25))) := (Kept.refl _ X).alloc _
  have hb0 : (X.alloc (.cells #[tv, mv] 25)).cell? ⟨X.heap.size, 0, none⟩ = some tv := by rw [World.cell?_alloc_new]; rfl
  have HB : Hid (∀ w, Fresh (X.alloc (.cells #[tv, mv] 25)) w → w.cell? ⟨X.heap.size, 0, none⟩ = some tv ∧ w.cell? ⟨X.heap.size, 1, none⟩ = some mv) := fun w hk => by
    have hz : X.heap.size < (X.alloc (.cells #[tv, mv] 25)).heap.size := by rw [World.size_alloc]; omega
    exact ⟨(hk.cell (p := ⟨X.heap.size, 0, none⟩) hz (fun e => e)).trans (by rw [World.cell?_alloc_new]; rfl), (hk.cell (p := ⟨X.heap.size, 1, none⟩) hz (fun e => e)).trans (by rw [World.cell?_alloc_new]; rfl)⟩
  have HC1 : Hid (∀ w, Fresh X w → Calls Try.prog 20 #[tv] w fun e X' => e = .returned (zV (wrT T)) ∧ Fresh w X') := fun w hk => wrongText_any w tv T (hT.fresh hk)
  have HC2 : Hid (wrT T = -1 → ∀ w, Fresh X w → Calls Try.prog 21 #[.agg #[tv, mv]] w fun e X' => e = .returned (zV (wrM T M)) ∧ Fresh w X') := fun hg w hk => wrongMerge_any w tv mv T M (hT.fresh hk) (hM.fresh hk) (good_64 hg)
  obtain ⟨ta, tc, rfl⟩ := hT.shape
  obtain ⟨ma, mc, rfl⟩ := hM.shape
  have HP : Hid (chP T M = if wrT T ≠ -1 then wrT T else if wrM T M ≠ -1 then wrM T M else 0) := rfl
  have HE : Hid (chE T M = if wrT T ≠ -1 then 130 else if wrM T M ≠ -1 then 131 else 0) := rfl
  generalize chP T M = P at *
  generalize chE T M = E at *
  clear hT hM
  generalize T.length = tn at *
  generalize M.length = mn at *
  generalize hX1 : X.alloc (.cells #[.slice ta tn tc, .slice ma mn mc] 25) = X1 at *
  have HCall := show Hid _ from HC1.out X1 HF1.out
  clear HC1
  generalize hwt : wrT T = wt at *
  go_enter Try.func10, Try.ntmps10
  go_wp2_with fail
  refine Calls.mono HCall.out ?_
  rintro e W2 ⟨rfl, hF2⟩
  have HF2 : Hid (Fresh X W2) := HF1.out.trans hF2 (fun _ _ e => e)
  obtain ⟨x0, x1⟩ := HB.out W2 hF2
  clear HCall hF2 hb0
  by_cases h1 : wt = -1
  · have HC3 := show Hid _ from HC2.out h1 W2 HF2.out
    rw [if_neg (by simpa using h1)] at HP HE
    clear HC2
    subst h1
    generalize hwm : wrM T M = wm at *
    go_wp2_with fail
    refine Calls.mono HC3.out ?_
    rintro e W3 ⟨rfl, hF3⟩
    have HF3 : Hid (Fresh X W3) := HF2.out.trans hF3 (fun _ _ e => e)
    clear HC3 hF3
    by_cases h2 : wm = -1
    · rw [if_neg (by simpa using h2)] at HP HE
      subst h2
      go_wp2
      go_ret2
      exact ⟨by rw [HP.out, HE.out]; rfl, HF3.out⟩
    · rw [if_pos h2] at HP HE
      have h2' : (wm == -1) = false := by simpa using h2
      go_wp2
      go_ret2
      exact ⟨by rw [HP.out, HE.out]; rfl, HF3.out⟩
  · rw [if_pos h1] at HP HE
    have h1' : (wt == -1) = false := by simpa using h1
    clear HC2
    go_wp2
    go_ret2
    exact ⟨by rw [HP.out, HE.out]; rfl, HF2.out⟩

/-- What Encode answers. -/
def bbF (T : List (List UInt8)) (txt : List UInt8) : Option Nat := fdF (fun i => decide (alT T T.length (txt.getD i 0).toNat = 0)) txt.length
def enE (T : List (List UInt8)) (M : List Mg) (txt : List UInt8) : Int := if chE T M ≠ 0 then chE T M else match bbF T txt with
  | some _ => 132
  | none => 0
def enP (T : List (List UInt8)) (M : List Mg) (txt : List UInt8) : Int := if chE T M ≠ 0 then chP T M else match bbF T txt with
  | some i => (i : Int)
  | none => 0
def enR (T : List (List UInt8)) (M : List Mg) (txt : List UInt8) : List Int := if chE T M ≠ 0 then [] else match bbF T txt with
  | some _ => []
  | none => enL (alL T T.length) txt M (List.replicate M.length [])
theorem chE_zero {T : List (List UInt8)} {M : List Mg} (h : chE T M = 0) : wrT T = -1 ∧ wrM T M = -1 := by
  unfold chE at h
  split at h
  · omega
  · rename_i h1
    split at h
    · omega
    · rename_i h2; exact ⟨by simpa using h1, by simpa using h2⟩
theorem alL_get {T : List (List UInt8)} {k b : Nat} (hb : b < 256) : gI (alL T k) b = alT T k b := fl_get hb
theorem Rs.nilI (B : Nat) (X : World) : Rs B X [RI nilV []] := ⟨fun r hr => by simp at hr; subst hr; exact own_nil _ _ _, List.pairwise_singleton _ _⟩
theorem Rs.low {B B' : Nat} {X : World} {l : List Rr} (h : Rs B X l) (hB : B' ≤ B) : Rs B' X l := ⟨fun r hr => by
  obtain ⟨h1, h2⟩ := h.own r hr
  refine ⟨h1, ?_⟩
  rcases h2 with e | ⟨g, cap, cur, hv, hb, r⟩
  · exact .inl e
  · exact .inr ⟨g, cap, cur, hv, by omega, r⟩, h.nd⟩
set_option maxHeartbeats 1000000 in
set_option maxRecDepth 100000 in
theorem Encode_any {p : Nat → Prop} (X : World) (tv mv : Value) (T : List (List UInt8)) (M : List Mg) (txt : List UInt8) (hT : TxR p X tv T) (hM : MgR p X mv M) (hl : txt.length ≤ 549755813888) :
    Calls Try.prog 14 #[.agg #[tv, mv], .string ⟨txt.toArray⟩] X fun e X' => ∃ v, e = .returned (.tuple #[v, zV (enP T M txt), zV (enE T M txt)]) ∧ Rs X.heap.size X' [RI v (enR T M txt)] ∧ Fresh X X' := by
  have HF1 : Hid (Fresh X (X.alloc (.cells #[tv, mv] 25))) := (Kept.refl _ X).alloc _
  have hb0 : (X.alloc (.cells #[tv, mv] 25)).cell? ⟨X.heap.size, 0, none⟩ = some tv := by rw [World.cell?_alloc_new]; rfl
  have hb1 : (X.alloc (.cells #[tv, mv] 25)).cell? ⟨X.heap.size, 1, none⟩ = some mv := by rw [World.cell?_alloc_new]; rfl
  have HB : Hid (∀ w, Fresh (X.alloc (.cells #[tv, mv] 25)) w → w.cell? ⟨X.heap.size, 0, none⟩ = some tv ∧ w.cell? ⟨X.heap.size, 1, none⟩ = some mv) := fun w hk => by
    have hz : X.heap.size < (X.alloc (.cells #[tv, mv] 25)).heap.size := by rw [World.size_alloc]; omega
    exact ⟨(hk.cell (p := ⟨X.heap.size, 0, none⟩) hz (fun e => e)).trans hb0, (hk.cell (p := ⟨X.heap.size, 1, none⟩) hz (fun e => e)).trans hb1⟩
  have HC1 : Hid (∀ w, Fresh X w → Calls Try.prog 10 #[.agg #[tv, mv]] w fun e X' => e = .returned (.tuple #[zV (chP T M), zV (chE T M)]) ∧ Fresh w X') := fun w hk => check_any w tv mv T M (hT.fresh hk) (hM.fresh hk)
  have HNw : Hid (chE T M = 0 → ∀ w, Fresh X w → Calls Try.prog 25 #[.agg #[tv, mv]] w fun e X' => ∃ s us, e = .returned (.pointer (some ⟨s.cb, 0, none⟩)) ∧ CoSt w.heap.size X' s (alL T T.length) M mv us (List.replicate M.length []) ∧ Fresh w X') := fun h0 w hk => newCoder_any w tv mv T M (hT.fresh hk) (hM.fresh hk) (by have := (wrT_good (chE_zero h0).1).1; omega) (by have := (wrM_good (chE_zero h0).2).1; omega)
  have HEn : Hid (chE T M = 0 → ∀ B w s us, CoSt B w s (alL T T.length) M mv us (List.replicate M.length []) → Calls Try.prog 26 #[.pointer (some ⟨s.cb, 0, none⟩), .string ⟨txt.toArray⟩] w (Enc B w s (alL T T.length) M mv (List.replicate M.length []) txt)) := fun h0 B w s us h => by
    refine encode_any h txt (fun z hz => ?_) (good_mok (chE_zero h0).2) (by have := (wrM_good (chE_zero h0).2).1; omega) (fun i => ?_) hl
    · obtain ⟨b, _, rfl⟩ := List.mem_map.1 hz
      have := alT_le T T.length b
      have := (wrT_good (chE_zero h0).1).1
      constructor <;> omega
    · unfold gW; rw [List.getD_eq_getElem?_getD, List.getElem?_replicate]; split <;> rfl
  obtain ⟨ta, tc, rfl⟩ := hT.shape
  obtain ⟨ma, mc, rfl⟩ := hM.shape
  have HP : Hid (enP T M txt = if chE T M ≠ 0 then chP T M else match bbF T txt with | some i => (i : Int) | none => 0) := rfl
  have HE : Hid (enE T M txt = if chE T M ≠ 0 then chE T M else match bbF T txt with | some _ => 132 | none => 0) := rfl
  have HR : Hid (enR T M txt = if chE T M ≠ 0 then [] else match bbF T txt with | some _ => [] | none => enL (alL T T.length) txt M (List.replicate M.length [])) := rfl
  have HBb : Hid (bbF T txt = fdF (fun i => decide (alT T T.length (txt.getD i 0).toNat = 0)) txt.length) := rfl
  generalize enP T M txt = P at *
  generalize enE T M txt = E at *
  generalize enR T M txt = RR at *
  clear hT hM
  generalize hcp : chP T M = cp at *
  generalize hce : chE T M = ce at *
  have HAl : Hid (∀ b, b < 256 → gI (alL T T.length) b = alT T T.length b) := fun b hb => alL_get hb
  generalize alL T T.length = A at *
  generalize hTl : T.length = tn at *
  generalize M.length = mn at *
  clear hcp hce
  generalize hX1 : X.alloc (.cells #[.slice ta tn tc, .slice ma mn mc] 25) = X1 at *
  have HCall := show Hid _ from HC1.out X1 HF1.out
  clear HC1
  go_enter Try.func14, Try.ntmps14
  go_wp2_with fail
  refine Calls.mono HCall.out ?_
  rintro e W2 ⟨rfl, hF2⟩
  have HF2 : Hid (Fresh X W2) := HF1.out.trans hF2 (fun _ _ e => e)
  obtain ⟨x0, x1⟩ := HB.out W2 hF2
  clear HCall hF2 hb0 hb1
  by_cases h1 : ce = 0
  · rw [if_neg (by simpa using h1)] at HP HE HR
    have HC2 := show Hid _ from HNw.out h1 W2 HF2.out
    have HC3 := show Hid _ from HEn.out h1
    clear HNw HEn
    subst h1
    go_wp2_with fail
    refine Calls.mono HC2.out ?_
    rintro e W3 ⟨s, us, rfl, hS, hF3⟩
    have HC4 := show Hid _ from HC3.out _ W3 s us hS
    have HF3 : Hid (Fresh X W3) := HF2.out.trans hF3 (fun _ _ e => e)
    have HB3 := show Hid _ from HF2.out.size
    clear HC2 HC3 hS hF3
    go_wp2_with fail
    refine Calls.mono HC4.out ?_
    rintro e W4 hEnc
    clear HC4
    rcases hEnc with ⟨i, hi, hz, hb, rfl, d, rfl⟩ | ⟨hb, v, Y, rfl, hR4, hF4, hU4, hBY, _⟩
    · have hbb : bbF T txt = some i := by
        rw [HBb.out]
        refine fdF_some hi ?_ (fun q hq => ?_)
        · have := HAl.out _ (UInt8.toNat_lt (txt.getD i 0))
          rw [hz] at this
          simp only [← this, decide_true]
        · have h2 := HAl.out _ (UInt8.toNat_lt (txt.getD q 0))
          have h3 := hb q hq
          rw [h2] at h3
          exact decide_eq_false h3
      rw [hbb] at HP HE HR
      have HP' : Hid (P = (i : Int)) := HP
      have HE' : Hid (E = 132) := HE
      have HR' : Hid (RR = []) := HR
      clear HP HE HR hbb hz hb
      go_wp2
      go_ret3
      exact ⟨nilV, by rw [HP'.out, HE'.out]; rfl, by rw [HR'.out]; exact Rs.nilI _ _, HF3.out.drewN d⟩
    · have hbb : bbF T txt = none := by
        rw [HBb.out]
        refine fdF_none (fun q hq => ?_)
        have h2 := HAl.out _ (UInt8.toNat_lt (txt.getD q 0))
        have h3 := hb q hq
        rw [h2] at h3
        exact decide_eq_false h3
      rw [hbb] at HP HE HR
      have HP' : Hid (P = 0) := HP
      have HE' : Hid (E = 0) := HE
      have HR' : Hid (Rs X.heap.size W4 [RI v RR] ∧ Fresh X W4) := by
        rw [show RR = _ from HR.out]
        have h5 : Fresh W2 Y → True := fun _ => trivial
        refine ⟨hR4.low ?_, ?_⟩
        · have := HB3.out
          have := hBY
          omega
        · refine (HF3.out.trans hU4.1 (fun q hq e => ?_)).trans hF4 (fun _ _ e => e)
          have := HB3.out
          omega
      obtain ⟨ao, cc, hvs⟩ := hR4.shapeI
      clear HP HE HR hbb hb hR4 hF4 hU4 hBY
      generalize (enL A txt M (List.replicate mn [])).length = len at *
      subst hvs
      go_wp2
      go_ret3
      exact ⟨_, by rw [HP'.out, HE'.out]; rfl, HR'.out⟩
  · rw [if_pos h1] at HP HE HR
    have h1' : (ce == 0) = false := by simpa using h1
    clear HNw HEn
    go_wp2
    go_ret3
    exact ⟨nilV, by rw [HP.out, HE.out]; rfl, by rw [HR.out]; exact Rs.nilI _ _, HF2.out⟩
end Go.Proofs.Ytjjpkidmlpmgaaa
