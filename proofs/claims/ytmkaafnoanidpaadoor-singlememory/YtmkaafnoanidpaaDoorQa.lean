/-
  Rows of singles: the greatest size, the scale, and the numbers of 8 bits; Quantise of the program.
-/
import Derived.Test.YtmkaafnoanidpaaDoorLf
import Derived.Test.YtmkaafnoanidpaaDoorCpN
import Derived.Lib.AppendZeros
namespace Go.Proofs.YtmkaafnoanidpaaDoor
open Go.RowKit Ieee

/-- v is a row of these bits, in a block that p allows. -/
def R32 (p : Nat → Prop) (W : World) (v : Value) (bs : List Nat) : Prop :=
  ∃ ao cap, v = .slice ao bs.length cap ∧ bs.length ≤ 35184372088832 ∧
    (bs ≠ [] → ∃ b off, ao = some ⟨b, off, none⟩ ∧ p b ∧ b < W.heap.size ∧ ∀ i, i < bs.length → W.cell? ⟨b, off + i, none⟩ = some (.int .u32 (bs.getD i 0 : Nat))) ∧
    (∀ z ∈ bs, z < 4294967296) ∧ (ao = none → cap = 0)
theorem R32.kept {p : Nat → Prop} {S : Nat → Prop} {W W' : World} {v : Value} {bs : List Nat} (h : R32 p W v bs) (hk : Kept S W W') (hn : ∀ b, p b → ¬ S b) : R32 p W' v bs := by
  obtain ⟨ao, cap, hv, hl, hc, hz⟩ := h
  refine ⟨ao, cap, hv, hl, fun h0 => ?_, hz⟩
  obtain ⟨b, off, ha, hp, hb, hcell⟩ := hc h0
  exact ⟨b, off, ha, hp, Nat.lt_of_lt_of_le hb hk.size, fun i hi => (hk.cell (p := ⟨b, off + i, none⟩) hb (hn b hp)).trans (hcell i hi)⟩
theorem getD_lt {bs : List Nat} (h : ∀ z ∈ bs, z < 4294967296) (i : Nat) : bs.getD i 0 < 4294967296 := by
  rcases Nat.lt_or_ge i bs.length with g | g
  · rw [List.getD_eq_getElem?_getD, List.getElem?_eq_getElem g]
    exact h _ (List.getElem_mem g)
  · rw [List.getD_eq_getElem?_getD, List.getElem?_eq_none g]
    decide

/-- The greatest size among the first k. -/
def gm (bs : List Nat) : Nat → Nat
  | 0 => 0
  | k + 1 => max (gm bs k) (bs.getD k 0 % 2147483648)
theorem gm_lt (bs : List Nat) : ∀ k, gm bs k < 2147483648
  | 0 => by unfold gm; omega
  | k + 1 => by
    have := gm_lt bs k
    have h2 : bs.getD k 0 % 2147483648 < 2147483648 := Nat.mod_lt _ (by decide)
    unfold gm
    omega

set_option maxHeartbeats 800000 in
theorem greatest_any (p : Nat → Prop) (rv : Value) (bs : List Nat) (w : World) (hS : Sing w) (hr : R32 p w rv bs) :
    Calls Tryd.prog 31 #[rv] w fun e w' => e = .returned (if 2139095040 ≤ gm bs bs.length then .tuple #[.int .u32 0, .int .i64 30] else .tuple #[.int .u32 (gm bs bs.length : Nat), .int .i64 0]) ∧ Fresh w w' := by
  obtain ⟨ao, cap, rfl, hl, hc, hz, _⟩ := hr
  obtain ⟨G, hG⟩ : ∃ G, G = gm bs bs.length := ⟨_, rfl⟩
  have hG2 : G < 2147483648 := by rw [hG]; exact gm_lt _ _
  have HG := show Hid _ from hG
  rw [← hG]
  clear hG
  obtain ⟨R, hR⟩ : ∃ R : Value, R = if 2139095040 ≤ G then .tuple #[.int .u32 0, .int .i64 30] else .tuple #[.int .u32 (G : Nat), .int .i64 0] := ⟨_, rfl⟩
  rw [← hR]
  have HR := show Hid _ from hR
  clear hR
  obtain ⟨s0, s1⟩ := hS
  go_enter Tryd.func31, Tryd.ntmps31
  go_wp2
  go_loop [4, 9] (fun sv i => ∃ j : Nat, j ≤ bs.length ∧ i = .int .i64 j ∧ sv = .int .u32 (gm bs j : Nat)) (fun _ i => bs.length - (intOf i).toNat)
  case atStart => exact ⟨0, by omega, rfl, rfl⟩
  case round =>
    obtain ⟨j, hj, rfl, rfl⟩ := hrel
    by_cases hlt : j < bs.length
    · obtain ⟨b, off, rfl, _, _, hcell⟩ := hc (fun e => by rw [e] at hlt; simp at hlt)
      have g1 := hcell j hlt
      have hlt2 := getD_lt hz j
      have a1 := andNot_top (bs.getD j 0) hlt2
      have HS : Hid (gm bs (j + 1) = max (gm bs j) (bs.getD j 0 % 2147483648)) := rfl
      generalize gm bs j = x at *
      have hb2 : bs.getD j 0 % 2147483648 < 2147483648 := Nat.mod_lt _ (by decide)
      generalize bs.getD j 0 % 2147483648 = y at *
      generalize bs.getD j 0 = z at *
      clear hcell hc hz
      go_wp2
      go_round
      case rel => exact ⟨j + 1, by omega, by go_num, by rw [HS.out]; go_num⟩
      case measure => simp [intOf]; omega
    · obtain rfl : j = bs.length := by omega
      rw [← HG.out]
      have hR := HR.out
      clear hc hz hlt
      by_cases g : 2139095040 ≤ G
      · rw [if_pos g] at hR
        have HR2 := show Hid _ from hR
        have gd : decide ((2139095040 : Int) ≤ (G : Int)) = true := decide_eq_true (by omega)
        clear hR g
        go_wp2_with fail
        refine (infinite_single _).mono ?_
        rintro r w1 ⟨rfl, h1⟩
        go_wp2
        go_ret2
        exact ⟨by rw [HR2.out]; rfl, h1⟩
      · rw [if_neg g] at hR
        have HR2 := show Hid _ from hR
        have gd : decide ((2139095040 : Int) ≤ (G : Int)) = false := decide_eq_false (by omega)
        clear hR g
        go_wp2_with fail
        refine (infinite_single _).mono ?_
        rintro r w1 ⟨rfl, h1⟩
        go_wp2
        go_ret2
        exact ⟨by rw [HR2.out]; rfl, h1⟩

/-- The whole number of bits at a scale. -/
def whl (b : Nat) (s : Int) : Nat := rnI (mt b) (ex b + s)
theorem low_fin {g : Nat} (h : g < 2139095040) : bE g ≠ 255 ∧ bN g = false := by
  have h2 := bF_lt g
  have h3 := low_eq g
  refine ⟨fun e => ?_, decide_eq_false (by omega)⟩
  rw [e] at h3
  omega

end Go.Proofs.YtmkaafnoanidpaaDoor
