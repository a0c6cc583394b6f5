/-
  Rows held against one another; the sum of weights, the package's and the document's.
-/
import Derived.Test.YtgemkmpepnaoiabRkd
namespace Go.Proofs.Ytgemkmpepnaoiab
open Go.RowKit Go.Lib Go.Maps

theorem take_sum_succ (zs : List Int) (j : Nat) (h : j < zs.length) : (zs.take (j + 1)).sum = (zs.take j).sum + zs.getD j 0 := by
  rw [List.take_succ_eq_append_getElem h, List.sum_append, List.getD_eq_getElem?_getD, List.getElem?_eq_getElem h]
  simp
/-- A weight. -/
def Wt (z : Int) : Prop := 0 ≤ z ∧ z ≤ 1073741824
theorem sum_bounds : ∀ zs : List Int, (∀ z ∈ zs, Wt z) → 0 ≤ zs.sum ∧ zs.sum ≤ zs.length * 1073741824
  | [], _ => by simp
  | z :: r, h => by
    have h1 := h z List.mem_cons_self
    have h2 := sum_bounds r (fun x hx => h x (List.mem_cons_of_mem _ hx))
    unfold Wt at h1
    rw [List.sum_cons, List.length_cons]
    constructor
    · omega
    · rw [Int.natCast_add, Int.add_mul]; omega
/-- What is wrong with weights. -/
def wOk (zs : List Int) : Bool := zs.all (fun z => decide (0 ≤ z) && decide (z ≤ 1073741824))
theorem wOk_iff (zs : List Int) : wOk zs = true ↔ ∀ z ∈ zs, Wt z := by simp [wOk, Wt]
def wE (zs : List Int) : Int := if zs.length > 4096 ∨ wOk zs = false then 70 else if zs.sum = 0 then 71 else 0
def wS (zs : List Int) : Int := if wE zs = 0 then zs.sum else 0
theorem wE_many {zs : List Int} (h : 4096 < zs.length) : wE zs = 70 := by unfold wE; rw [if_pos (.inl h)]
theorem wE_bad {zs : List Int} {z : Int} (h : z ∈ zs) (hz : ¬ Wt z) : wE zs = 70 := by unfold wE; rw [if_pos (.inr (by cases e : wOk zs; rfl; exact absurd ((wOk_iff zs).1 e z h) hz))]
theorem wE_none {zs : List Int} (h : zs.length ≤ 4096) (hz : ∀ z ∈ zs, Wt z) (h0 : zs.sum = 0) : wE zs = 71 := by unfold wE; rw [if_neg (by rw [(wOk_iff zs).2 hz]; rintro (k | k); omega; cases k), if_pos h0]
theorem wE_ok {zs : List Int} (h : zs.length ≤ 4096) (hz : ∀ z ∈ zs, Wt z) (h0 : zs.sum ≠ 0) : wE zs = 0 := by unfold wE; rw [if_neg (by rw [(wOk_iff zs).2 hz]; rintro (k | k); omega; cases k), if_neg h0]
theorem wS_bad {zs : List Int} (h : wE zs ≠ 0) : wS zs = 0 := by unfold wS; rw [if_neg h]
theorem wS_ok {zs : List Int} (h : wE zs = 0) : wS zs = zs.sum := by unfold wS; rw [if_pos h]
/-- Weights that may be. -/
theorem wE_zero {zs : List Int} (h : wE zs = 0) : zs.length ≤ 4096 ∧ (∀ z ∈ zs, Wt z) ∧ zs.sum ≠ 0 ∧ 0 < zs.sum := by
  have h1 : zs.length ≤ 4096 := by
    rcases Nat.lt_or_ge 4096 zs.length with e | e
    · rw [wE_many e] at h; omega
    · exact e
  have h2 : ∀ z ∈ zs, Wt z := by
    intro z hz
    by_cases e : Wt z
    · exact e
    · rw [wE_bad hz e] at h; omega
  have h3 : zs.sum ≠ 0 := fun e => by rw [wE_none h1 h2 e] at h; omega
  have := sum_bounds zs h2
  exact ⟨h1, h2, h3, by omega⟩

def WtsP (zs : List Int) (j : Nat) : Prop := ∀ i, i < j → Wt (zs.getD i 0)
theorem WtsP.succ {zs : List Int} {j : Nat} (h : WtsP zs j) (hz : Wt (zs.getD j 0)) : WtsP zs (j + 1) := fun i hi => by
  rcases Nat.lt_or_ge i j with e | e
  · exact h i e
  · obtain rfl : i = j := by omega
    exact hz
theorem WtsP.all {zs : List Int} (h : WtsP zs zs.length) : ∀ z ∈ zs, Wt z := fun z hz => by
  obtain ⟨i, hi, rfl⟩ := List.getElem_of_mem hz
  have := h i hi
  rwa [List.getD_eq_getElem?_getD, List.getElem?_eq_getElem hi] at this
theorem WtsP.sum {zs : List Int} {j : Nat} (h : WtsP zs j) (hj : j ≤ zs.length) : 0 ≤ (zs.take j).sum ∧ (zs.take j).sum ≤ j * 1073741824 := by
  have := sum_bounds (zs.take j) (fun z hz => by
    obtain ⟨i, hi, rfl⟩ := List.getElem_of_mem hz
    rw [List.length_take] at hi
    have := h i (by omega)
    rw [List.getD_eq_getElem?_getD, List.getElem?_eq_getElem (by omega)] at this
    rw [List.getElem_take]
    exact this)
  rw [List.length_take, Nat.min_eq_left hj] at this
  exact this

set_option maxHeartbeats 1000000 in
set_option maxRecDepth 100000 in
theorem weigh_any (p : Nat → Prop) (rv : Value) (zs : List Int) (w : World) (hr : Rw p w rv zs) :
    Calls Try.prog 31 #[rv] w fun e w' => e = .returned (.tuple #[zV (wS zs), zV (wE zs)]) ∧ w' = w := by
  obtain ⟨ao, cap, rfl, hl, hc, _⟩ := hr
  by_cases hm : 4096 < zs.length
  · have HE : Hid (wE zs = 70 ∧ wS zs = 0) := ⟨wE_many hm, wS_bad (by rw [wE_many hm]; omega)⟩
    have hm' : (4096 : Int) < (zs.length : Int) := by omega
    clear hc
    go_enter Try.func31, Try.ntmps31
    go_wp2
    go_ret2
    exact ⟨by rw [HE.out.1, HE.out.2]; rfl, rfl⟩
  · have hm' : ¬ (4096 : Int) < (zs.length : Int) := by omega
    go_enter Try.func31, Try.ntmps31
    go_wp2
    go_loopw [4, 12] (fun s i wr => ∃ j : Nat, j ≤ zs.length ∧ i = .int .i64 (j : Int) ∧ s = zV (zs.take j).sum ∧ WtsP zs j ∧ wr = w) (fun _ i _ => zs.length - (RowKit.intOf i).toNat)
    case atStart => exact ⟨0, Nat.zero_le _, rfl, rfl, fun i hi => by omega, rfl⟩
    case round =>
      obtain ⟨j, hj, rfl, rfl, hw, rfl⟩ := hrel
      have hb := hw.sum hj
      by_cases hlt : j < zs.length
      · obtain ⟨b, off, rfl, _, _, hcell⟩ := hc (fun e => by rw [e] at hlt; simp at hlt)
        have g1 := hcell j hlt
        have hlt' : (j : Int) < (zs.length : Int) := by omega
        have HS : Hid ((zs.take (j + 1)).sum = (zs.take j).sum + zs.getD j 0) := take_sum_succ zs j hlt
        have HW : Hid (Wt (zs.getD j 0) → WtsP zs (j + 1)) := hw.succ
        have HB : Hid (¬ Wt (zs.getD j 0) → wE zs = 70) := fun h => wE_bad (z := zs.getD j 0) (by rw [List.getD_eq_getElem?_getD, List.getElem?_eq_getElem hlt]; exact List.getElem_mem hlt) h
        clear hcell hc hw
        generalize zs.getD j 0 = x at *
        generalize (zs.take j).sum = S at *
        by_cases h0 : x < 0
        · have HE : Hid (wE zs = 70) := HB.out (fun h => by have := h.1; omega)
          go_wp2
          go_ret2
          exact ⟨by rw [HE.out, wS_bad (by rw [HE.out]; omega)]; rfl, rfl⟩
        · by_cases h1 : 1073741824 < x
          · have HE : Hid (wE zs = 70) := HB.out (fun h => by have := h.2; omega)
            go_wp2
            go_ret2
            exact ⟨by rw [HE.out, wS_bad (by rw [HE.out]; omega)]; rfl, rfl⟩
          · have HW' : Hid (WtsP zs (j + 1)) := HW.out ⟨by omega, by omega⟩
            go_wp2
            go_roundw
            case rel => exact ⟨j + 1, hlt, by go_num, by rw [HS.out], HW'.out, trivial⟩
            case measure => simp [RowKit.intOf]; omega
      · obtain rfl : j = zs.length := by omega
        have HA : Hid (∀ z ∈ zs, Wt z) := hw.all
        clear hw hc hlt
        rw [List.take_length] at hb ⊢
        by_cases h0 : zs.sum = 0
        · have HE : Hid (wE zs = 71) := wE_none (by omega) HA.out h0
          go_wp2
          go_ret2
          exact ⟨by rw [HE.out, wS_bad (by rw [HE.out]; omega)]; rfl, rfl⟩
        · have HE : Hid (wE zs = 0 ∧ wS zs = zs.sum) := ⟨wE_ok (by omega) HA.out h0, wS_ok (wE_ok (by omega) HA.out h0)⟩
          generalize zs.sum = S at *
          go_wp2
          go_ret2
          exact ⟨by rw [HE.out.1, HE.out.2]; rfl, rfl⟩
set_option maxHeartbeats 1000000 in
set_option maxRecDepth 100000 in
theorem refSum_any (p : Nat → Prop) (rv : Value) (zs : List Int) (w : World) (hr : Rw p w rv zs) :
    Calls Try.prog 32 #[rv] w fun e w' => e = .returned (.tuple #[zV (wS zs), zV (wE zs)]) ∧ w' = w := by
  obtain ⟨ao, cap, rfl, hl, hc, _⟩ := hr
  by_cases hm : 4096 < zs.length
  · have HE : Hid (wE zs = 70 ∧ wS zs = 0) := ⟨wE_many hm, wS_bad (by rw [wE_many hm]; omega)⟩
    have hm' : (4096 : Int) < (zs.length : Int) := by omega
    clear hc
    go_enter Try.func32, Try.ntmps32
    go_wp2
    go_ret2
    exact ⟨by rw [HE.out.1, HE.out.2]; rfl, rfl⟩
  · have hm' : ¬ (4096 : Int) < (zs.length : Int) := by omega
    go_enter Try.func32, Try.ntmps32
    go_wp2
    go_loopw [4, 5] (fun s i wr => ∃ j : Nat, j ≤ zs.length ∧ i = .int .i64 (j : Int) ∧ s = zV (zs.take j).sum ∧ WtsP zs j ∧ wr = w) (fun _ i _ => zs.length - (RowKit.intOf i).toNat)
    case atStart => exact ⟨0, Nat.zero_le _, rfl, rfl, fun i hi => by omega, rfl⟩
    case round =>
      obtain ⟨j, hj, rfl, rfl, hw, rfl⟩ := hrel
      have hb := hw.sum hj
      by_cases hlt : j < zs.length
      · obtain ⟨b, off, rfl, _, _, hcell⟩ := hc (fun e => by rw [e] at hlt; simp at hlt)
        have g1 := hcell j hlt
        have hlt' : (j : Int) < (zs.length : Int) := by omega
        have HS : Hid ((zs.take (j + 1)).sum = (zs.take j).sum + zs.getD j 0) := take_sum_succ zs j hlt
        have HW : Hid (Wt (zs.getD j 0) → WtsP zs (j + 1)) := hw.succ
        have HB : Hid (¬ Wt (zs.getD j 0) → wE zs = 70) := fun h => wE_bad (z := zs.getD j 0) (by rw [List.getD_eq_getElem?_getD, List.getElem?_eq_getElem hlt]; exact List.getElem_mem hlt) h
        clear hcell hc hw
        generalize zs.getD j 0 = x at *
        generalize (zs.take j).sum = S at *
        by_cases h0 : x < 0
        · have HE : Hid (wE zs = 70) := HB.out (fun h => by have := h.1; omega)
          go_wp2
          go_ret2
          exact ⟨by rw [HE.out, wS_bad (by rw [HE.out]; omega)]; rfl, rfl⟩
        · by_cases h1 : 1073741824 < x
          · have HE : Hid (wE zs = 70) := HB.out (fun h => by have := h.2; omega)
            go_wp2
            go_ret2
            exact ⟨by rw [HE.out, wS_bad (by rw [HE.out]; omega)]; rfl, rfl⟩
          · have HW' : Hid (WtsP zs (j + 1)) := HW.out ⟨by omega, by omega⟩
            go_wp2
            go_roundw
            case rel => exact ⟨j + 1, hlt, by go_num, by rw [HS.out], HW'.out, trivial⟩
            case measure => simp [RowKit.intOf]; omega
      · obtain rfl : j = zs.length := by omega
        have HA : Hid (∀ z ∈ zs, Wt z) := hw.all
        clear hw hc hlt
        rw [List.take_length] at hb ⊢
        by_cases h0 : zs.sum = 0
        · have HE : Hid (wE zs = 71) := wE_none (by omega) HA.out h0
          go_wp2
          go_ret2
          exact ⟨by rw [HE.out, wS_bad (by rw [HE.out]; omega)]; rfl, rfl⟩
        · have HE : Hid (wE zs = 0 ∧ wS zs = zs.sum) := ⟨wE_ok (by omega) HA.out h0, wS_ok (wE_ok (by omega) HA.out h0)⟩
          generalize zs.sum = S at *
          go_wp2
          go_ret2
          exact ⟨by rw [HE.out.1, HE.out.2]; rfl, rfl⟩
end Go.Proofs.Ytgemkmpepnaoiab
