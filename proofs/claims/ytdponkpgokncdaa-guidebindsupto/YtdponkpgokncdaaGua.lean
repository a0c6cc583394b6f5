/-
  A machine in memory; its steps are read.
-/
import Derived.Test.YtdponkpgokncdaaGuN
import Derived.Test.YtdponkpgokncdaaMk2
namespace Go.Proofs.Ytdponkpgokncdaa
open Go.RowKit Go.Lib Go.Maps

/-- The cells of the first rows of steps. -/
def rowS (f : Nat → Nat → Int) (s : Nat) : List Value := (List.range 256).map (fun c => .int .i16 (f s c))
def flS (f : Nat → Nat → Int) : Nat → List Value
  | 0 => []
  | j + 1 => flS f j ++ rowS f j
theorem rowS_len (f : Nat → Nat → Int) (s : Nat) : (rowS f s).length = 256 := by unfold rowS; rw [List.length_map, List.length_range]
theorem flS_len (f : Nat → Nat → Int) : ∀ j, (flS f j).length = j * 256
  | 0 => rfl
  | j + 1 => by show (flS f j ++ rowS f j).length = _; rw [List.length_append, flS_len f j, rowS_len, Nat.add_mul]
theorem flS_get (f : Nat → Nat → Int) : ∀ n s c, s < n → c < 256 → (flS f n)[s * 256 + c]? = some (.int .i16 (f s c))
  | 0, _, _, h, _ => absurd h (Nat.not_lt_zero _)
  | n + 1, s, c, h, hc => by
    have hl := flS_len f n
    show (flS f n ++ rowS f n)[s * 256 + c]? = _
    rcases Nat.lt_or_ge s n with e | e
    · rw [List.getElem?_append_left (by omega)]
      exact flS_get f n s c e hc
    · obtain rfl : s = n := by omega
      rw [List.getElem?_append_right (by omega), hl, Nat.add_sub_cancel_left]
      unfold rowS
      rw [List.getElem?_map, List.getElem?_range hc]
      rfl
/-- A machine: its cell, which states accept, its steps. -/
structure MaAt (B : Nat) (W : World) (b : Nat) (av sv : Value) (A : List Bool) (n : Nat) (f : Nat → Nat → Int) : Prop where
  hb : W.heap[b]? = some (.cells #[av, sv] 90 (0, 0))
  ac : W.ownsRow B 4 1 av n (A.map Value.bool)
  st : W.ownsRow B 101 256 sv n (flS f n)
  le : B ≤ b
  rg : ∀ s c, f s c = -1 ∨ (0 ≤ f s c ∧ f s c < (n : Int))
  sm : n ≤ 64
theorem MaAt.ln {B : Nat} {W : World} {b : Nat} {av sv : Value} {A : List Bool} {n : Nat} {f : Nat → Nat → Int} (h : MaAt B W b av sv A n f) : A.length = n := by
  have := h.ac.1
  rwa [List.length_map, Nat.mul_one] at this
theorem MaAt.kept {B : Nat} {W W' : World} {b : Nat} {av sv : Value} {A : List Bool} {n : Nat} {f : Nat → Nat → Int} {S : Nat → Prop} (h : MaAt B W b av sv A n f) (hk : Kept S W W') (hn : ∀ q, B ≤ q → q < W.heap.size → ¬ S q) : MaAt B W' b av sv A n f :=
  ⟨hk.at h.hb (hn _ h.le (lt_of_heap h.hb)), owns_kept h.ac hk (fun g hg => hn g (Rr.At.lt (r := ⟨4, av, A.map Value.bool⟩) (by unfold Rr.At; rw [List.length_map, h.ln]; exact h.ac) hg).1 (owns_lt h.ac hg)), owns_kept h.st hk (fun g hg => hn g (by
    rcases h.st.2 with ⟨rfl, _⟩ | ⟨g', cap', cur, hv, hb, _⟩
    · simp [Value.ownBlock] at hg
    · rw [hv] at hg; simp [Value.ownBlock] at hg; omega) (owns_lt h.st hg)), h.le, h.rg, h.sm⟩
theorem MaAt.fresh {B : Nat} {W W' : World} {b : Nat} {av sv : Value} {A : List Bool} {n : Nat} {f : Nat → Nat → Int} (h : MaAt B W b av sv A n f) (hk : Fresh W W') : MaAt B W' b av sv A n f := h.kept hk (fun _ _ _ e => e)
/-- What a step reads. -/
theorem MaAt.cells {B : Nat} {W : World} {b : Nat} {av sv : Value} {A : List Bool} {n : Nat} {f : Nat → Nat → Int} (h : MaAt B W b av sv A n f) : (∃ ao ac, av = .slice ao n ac) ∧ ∃ so sc, sv = .slice so n sc ∧ (W.cell? ⟨b, 0, none⟩ = some av ∧ W.cell? ⟨b, 1, none⟩ = some (.slice so n sc)) ∧ (0 < n → ∃ g, so = some ⟨g, 0, none⟩ ∧ ∀ s c, s < n → c < 256 → W.cell? ⟨g, s * 256 + c, none⟩ = some (.int .i16 (f s c))) := by
  obtain ⟨so, sc, hs⟩ := ownsRow_shape h.st
  obtain ⟨ao, ac, ha⟩ := ownsRow_shape h.ac
  refine ⟨⟨ao, ac, ha⟩, so, sc, hs, ⟨by rw [Lib.cell_of_heap h.hb]; rfl, by rw [Lib.cell_of_heap h.hb, hs]; rfl⟩, fun h0 => ?_⟩
  have h1 := h.st
  rcases h1.2 with ⟨_, e⟩ | ⟨g, cap, cur, hv, _⟩
  · omega
  · rw [hs] at hv
    injection hv with e1 e2 e3
    subst e1 e3
    refine ⟨g, rfl, fun s c h2 h3 => ?_⟩
    rw [hs] at h1
    rw [h1.cellAt (s * 256 + c) (by omega)]
    exact flS_get f n s c h2 h3
theorem MaAt.acc {B : Nat} {W : World} {b : Nat} {av sv : Value} {A : List Bool} {n : Nat} {f : Nat → Nat → Int} (h : MaAt B W b av sv A n f) (h0 : 0 < n) : ∃ g ac, av = .slice (some ⟨g, 0, none⟩) n ac ∧ ∀ s, s < n → W.cell? ⟨g, s, none⟩ = some (.bool (A.getD s false)) := by
  have h1 := h.ac
  rcases h1.2 with ⟨_, e⟩ | ⟨g, cap, cur, hv, _⟩
  · omega
  · subst hv
    refine ⟨g, cap, rfl, fun s h2 => ?_⟩
    rw [h1.cellAt s (by omega), List.getElem?_map, List.getD_eq_getElem?_getD, List.getElem?_eq_getElem (by rw [h.ln]; exact h2)]
    rfl
section
variable {B : Nat} {W : World} {b : Nat} {av sv : Value} {A : List Bool} {n : Nat} {f : Nat → Nat → Int}
set_option maxHeartbeats 1000000 in
set_option maxRecDepth 100000 in
theorem has_any (h : MaAt B W b av sv A n f) (s : Int) : Calls Try.prog 33 #[.pointer (some ⟨b, 0, none⟩), zV s] W fun e w' => e = .returned (.bool (decide (0 ≤ s) && decide (s < (n : Int)))) ∧ w' = W := by
  obtain ⟨_, so, sc, rfl, ⟨c0, c1⟩, _⟩ := h.cells
  clear h
  by_cases h0 : 0 ≤ s
  · by_cases h1 : s < (n : Int)
    · have d0 : decide (0 ≤ s) = true := decide_eq_true h0
      have d1 : decide (s < (n : Int)) = true := decide_eq_true h1
      go_enter Try.func33, Try.ntmps33
      go_wp2
      go_ret
      exact ⟨by rw [d0, d1]; rfl, rfl⟩
    · have d0 : decide (0 ≤ s) = true := decide_eq_true h0
      have d1 : decide (s < (n : Int)) = false := decide_eq_false h1
      go_enter Try.func33, Try.ntmps33
      go_wp2
      go_ret
      exact ⟨rfl, rfl⟩
  · have d0 : decide (0 ≤ s) = false := decide_eq_false h0
    go_enter Try.func33, Try.ntmps33
    go_wp2
    go_ret
    exact ⟨rfl, rfl⟩
set_option maxHeartbeats 1000000 in
set_option maxRecDepth 100000 in
theorem accepts_any (h : MaAt B W b av sv A n f) (s : Int) (hs : s = -1 ∨ (0 ≤ s ∧ s < (n : Int))) : Calls Try.prog 35 #[.pointer (some ⟨b, 0, none⟩), zV s] W fun e w' => e = .returned (.bool (decide (0 ≤ s) && A.getD s.toNat false)) ∧ w' = W := by
  rcases hs with rfl | ⟨h0, h1⟩
  · obtain ⟨⟨ao, ac, rfl⟩, so, sc, rfl, ⟨c0, c1⟩, _⟩ := h.cells
    clear h
    go_enter Try.func35, Try.ntmps35
    go_wp2
    go_ret
    exact ⟨rfl, rfl⟩
  · obtain ⟨s, rfl⟩ : ∃ k : Nat, s = (k : Int) := ⟨s.toNat, by omega⟩
    obtain ⟨_, so, sc, rfl, ⟨c0, c1⟩, _⟩ := h.cells
    obtain ⟨g, ac, rfl, hc⟩ := h.acc (by omega)
    have c2 := hc s (by omega)
    rw [Int.toNat_natCast]
    clear hc h
    generalize A.getD s false = x at *
    have d0 : decide (0 ≤ (s : Int)) = true := decide_eq_true h0
    have d1 : ((s : Int) == -1) = false := beq_eq_false_iff_ne.2 (by omega)
    go_enter Try.func35, Try.ntmps35
    go_wp2
    go_ret
    exact ⟨by rw [d0]; rfl, rfl⟩
set_option maxHeartbeats 1000000 in
set_option maxRecDepth 100000 in
theorem step_mach (h : MaAt B W b av sv A n f) (s : Int) (c : UInt8) (hs : s = -1 ∨ (0 ≤ s ∧ s < (n : Int))) : Calls Try.prog 46 #[.pointer (some ⟨b, 0, none⟩), zV s, .int .u8 (c.toNat : Int)] W fun e w' => e = .returned (zV (if s = -1 then -1 else f s.toNat c.toNat)) ∧ w' = W := by
  rcases hs with rfl | ⟨h0, h1⟩
  · clear h
    go_enter Try.func46, Try.ntmps46
    go_wp2
    go_ret
    exact ⟨rfl, rfl⟩
  · obtain ⟨s, rfl⟩ : ∃ k : Nat, s = (k : Int) := ⟨s.toNat, by omega⟩
    obtain ⟨_, so, sc, rfl, ⟨c0, c1⟩, hr⟩ := h.cells
    obtain ⟨g, rfl, hc⟩ := hr (by omega)
    have hc256 : c.toNat < 256 := c.toNat_lt
    have c2 := hc s c.toNat (by omega) hc256
    have hrg := h.rg s c.toNat
    have hsm := h.sm
    rw [if_neg (by omega), Int.toNat_natCast]
    clear hc h hr
    generalize f s c.toNat = x at *
    generalize c.toNat = k at *
    have hw : IntKind.i64.wrap x = x := by rw [IntKind.wrap_i64]; omega
    clear hrg
    have d1 : ((s : Int) == -1) = false := beq_eq_false_iff_ne.2 (by omega)
    go_enter Try.func46, Try.ntmps46
    go_wp2
    go_ret
    exact ⟨rfl, rfl⟩
end
end Go.Proofs.Ytdponkpgokncdaa
