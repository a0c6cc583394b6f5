/-
  Rows of numbers of 8 bits, and the law's comparison of them (layer 3).
-/
import Derived.Test.YtmkaafnoanidpaaDoorQb
import Derived.BigQuiet
import Derived.Test.YtmkaafnoanidpaaDoorRows
import Derived.ProofKit
import Derived.OpenShut
namespace Go.Proofs.YtmkaafnoanidpaaDoor
open Go.ChangeShapes Go.WideShapes Go.ChangeAt Go.RowKit

/-- The value v is a slice of the numbers zs (of 8 bits), in a block of p. -/
def RowIs (p : Nat → Prop) (W : World) (v : Value) (zs : List Int) : Prop :=
  ∃ ao cap, v = .slice ao zs.length cap ∧ zs.length ≤ 140737488351232 ∧
    (zs ≠ [] → ∃ b off, ao = some ⟨b, off, none⟩ ∧ p b ∧ b < W.heap.size ∧ ∀ i, i < zs.length → W.cell? ⟨b, off + i, none⟩ = some (.int .i8 (zs.getD i 0))) ∧
    (∀ z ∈ zs, -128 ≤ z ∧ z ≤ 127) ∧ (ao = none → cap = 0)

theorem RowIs.kept {p : Nat → Prop} {S : Nat → Prop} {W W' : World} {v : Value} {zs : List Int} (h : RowIs p W v zs) (hk : Kept S W W') (hn : ∀ b, p b → ¬ S b) : RowIs p W' v zs := by
  obtain ⟨ao, cap, hv, hl, hc, hz⟩ := h
  refine ⟨ao, cap, hv, hl, fun h0 => ?_, hz⟩
  obtain ⟨b, off, ha, hp, hb, hcell⟩ := hc h0
  exact ⟨b, off, ha, hp, Nat.lt_of_lt_of_le hb hk.size, fun i hi => (hk.cell (p := ⟨b, off + i, none⟩) hb (hn b hp)).trans (hcell i hi)⟩

theorem RowIs.mono {p q : Nat → Prop} {W : World} {v : Value} {zs : List Int} (h : RowIs p W v zs) (hpq : ∀ b, p b → q b) : RowIs q W v zs := by
  obtain ⟨ao, cap, hv, hl, hc, hz⟩ := h
  exact ⟨ao, cap, hv, hl, fun h0 => let ⟨b, off, ha, hp, r⟩ := hc h0; ⟨b, off, ha, hpq b hp, r⟩, hz⟩

theorem Tryd.cI8 : Tryd.prog.cellsOf 37 = 1 := by kernel_rfl

/-- A slice of numbers of 8 bits, out of its reading. -/
theorem row_of {H : Type} {enc : TypeId × Value → H} {W : World} {fuel : Nat} {v : Value} {x : DataW H × List MemPlace} (h : DataW.trod enc Tryd.prog W 0 (fun _ => true) true fuel 28 [v] = some x)
    (hsz : ∀ es sp, x.1 = .slice es sp → es.length ≤ 140737488351232) : ∃ zs : List Int, RowIs (fun b => b < W.heap.size) W v zs ∧ (x.1 = .nil ∧ zs = [] ∨ ∃ sp, x.1 = .slice (lits .i8 zs) sp) := by
  rcases open_ints Tryd.underlying28 Tryd.underlying37 Tryd.cI8 h with ⟨hcs, hx⟩ | ⟨a, len, cap, zs, hcs, _, hl, hm, hz, hx, hcell, hwz⟩
  · refine ⟨[], ⟨none, 0, by simpa using hcs, by simp, fun h0 => absurd rfl h0, by simp, fun _ => rfl⟩, .inl ⟨by rw [hx], rfl⟩⟩
  · simp only [if_true] at hz
    have htl : (zs.take len).length = len := by rw [List.length_take]; omega
    refine ⟨zs.take len, ⟨some a, cap, ?_, ?_, fun h0 => ?_, ?_, fun e => by cases e⟩, .inr ⟨_, by rw [hx]⟩⟩
    · rw [htl]; simpa using hcs
    · have := hsz _ _ (by rw [hx])
      simpa [lits] using this
    · have hpos : 0 < len := by
        rcases Nat.eq_zero_or_pos len with e | e
        · subst e; simp at h0
        · exact e
      obtain ⟨b, off, rfl, hc⟩ := ints_at hcell (by omega)
      refine ⟨b, off, rfl, ?_, ?_, fun i hi => ?_⟩
      · have := World.block_lt_of_cell? W _ (hc 0 (by omega)); simpa using this
      · have := World.block_lt_of_cell? W _ (hc 0 (by omega)); simpa using this
      · rw [htl] at hi
        rw [hc i (by omega), List.getD_eq_getElem?_getD, List.getD_eq_getElem?_getD, List.getElem?_take_of_lt hi]
    · intro z hzm
      have := hwz z (List.mem_of_mem_take hzm)
      have := bounds_i8 this
      omega

/-- A row that is the call's own is a row of numbers. -/
theorem rowIs_of_own {B : Nat} {w : World} {v : Value} {zs : List Int} (h : w.ownsRow B 37 1 v zs.length (zs.map (Value.int .i8))) (hl : zs.length ≤ 140737488351232) (hz : ∀ z ∈ zs, -128 ≤ z ∧ z ≤ 127) : RowIs (fun k => B ≤ k) w v zs := by
  rcases h.2 with ⟨rfl, h0⟩ | ⟨g, cap, cur, rfl, hb, hg, _⟩
  · have e : zs = [] := List.eq_nil_of_length_eq_zero h0
    subst e
    exact ⟨none, 0, rfl, by simp, fun h => absurd rfl h, by simp, fun _ => rfl⟩
  · refine ⟨_, cap, rfl, hl, fun _ => ⟨g, 0, rfl, hb, lt_of_heap hg, fun i hi => ?_⟩, hz, fun e => by cases e⟩
    rw [Nat.zero_add, h.cellAt i (by omega), List.getElem?_map, List.getD_eq_getElem?_getD, List.getElem?_eq_getElem hi]
    rfl

set_option maxHeartbeats 800000 in
theorem rows_any (p q : Nat → Prop) (ra rb : Value) (za zb : List Int) (w : World) (ha : RowIs p w ra za) (hb : RowIs q w rb zb) :
    Calls Tryd.prog 14 #[ra, rb] w fun e w' => e = .returned (.bool (decide (za = zb))) ∧ ∃ n, w' = w.drewN n := by
  obtain ⟨ao, capa, rfl, hla, hca, _⟩ := ha
  obtain ⟨bo, capb, rfl, hlb, hcb, _⟩ := hb
  by_cases hl : za.length = zb.length
  · have hl' : ((za.length : Int) == (zb.length : Int)) = true := by simp [hl]
    go_enter Tryd.func14, Tryd.ntmps14
    rw [hl]
    go_wp2
    go_loopw [5] (fun i wr => ∃ j : Nat, j ≤ zb.length ∧ i = .int .i64 j ∧ za.take j = zb.take j ∧ ∃ n, wr = w.drewN n) (fun i _ => zb.length - (intOf i).toNat)
    case atStart => exact ⟨0, by omega, rfl, by simp, 0, rfl⟩
    case round =>
      obtain ⟨j, hj, rfl, heq, n, hwr⟩ := hrel
      by_cases hlt : j < zb.length
      · obtain ⟨b1, o1, rfl, _, _, hc1⟩ := hca (fun e => by rw [e] at hl; simp at hl; omega)
        obtain ⟨b2, o2, rfl, _, _, hc2⟩ := hcb (fun e => by rw [e] at hlt; simp at hlt)
        have g1 : wr.cell? ⟨b1, o1 + j, none⟩ = some (.int .i8 (za.getD j 0)) := by rw [hwr]; exact hc1 j (by omega)
        have g2 : wr.cell? ⟨b2, o2 + j, none⟩ = some (.int .i8 (zb.getD j 0)) := by rw [hwr]; exact hc2 j hlt
        have hwn : ∀ m, ∃ n', wr.drewN m = w.drewN n' := fun m => ⟨n + m, by rw [hwr]; simp [World.drewN, Nat.add_assoc]⟩
        have hsn : za.getD j 0 = zb.getD j 0 → za.take (j + 1) = zb.take (j + 1) := fun e => by
          rw [List.getD_eq_getElem?_getD, List.getD_eq_getElem?_getD, List.getElem?_eq_getElem (by omega), List.getElem?_eq_getElem hlt] at e
          have e' : za[j]'(by omega) = zb[j] := e
          rw [List.take_succ_eq_append_getElem (by omega), List.take_succ_eq_append_getElem hlt, heq, e']
        have hne : za.getD j 0 ≠ zb.getD j 0 → decide (za = zb) = false := fun e => by
          rw [decide_eq_false_iff_not]; rintro rfl; exact e rfl
        have HS := show Hid _ from hsn
        have HN := show Hid _ from hne
        have HW := show Hid _ from hwn
        have HE := show Hid _ from heq
        clear hc1 hc2 hsn hne hwn hwr heq hca hcb
        have hj0 : (0 : Int) ≤ (j : Int) := by omega
        have hj1 : (j : Int) < (zb.length : Int) := by omega
        generalize za.getD j 0 = x at *
        generalize zb.getD j 0 = y at *
        by_cases hxy : x = y
        · subst hxy
          go_wp2_with fail
          go_quiet (fail)
          go_wp2
          go_roundw
          case rel => exact ⟨j + 1, by omega, by go_num, HS.out (by trivial), HW.out _⟩
          case measure => simp [intOf]; omega
        · have hb1 : (x != y) = true := by simp [hxy]
          go_wp2_with fail
          go_quiet (fail)
          go_wp2
          go_ret
          exact ⟨ret_bool (HN.out hxy).symm, HW.out _⟩
      · obtain rfl : j = zb.length := by omega
        have he : za = zb := by
          rw [List.take_length, ← hl, List.take_length] at heq
          exact heq
        have HD : Hid (decide (za = zb) = true) := by show decide _ = true; simp [he]
        have HW : Hid (∃ n, wr = w.drewN n) := ⟨n, hwr⟩
        clear hwr he heq
        go_wp2
        go_ret
        exact ⟨ret_bool HD.out.symm, HW.out⟩
  · have hl' : ((za.length : Int) != (zb.length : Int)) = true := by simp; omega
    have HD : Hid (decide (za = zb) = false) := by show decide _ = false; rw [decide_eq_false_iff_not]; rintro rfl; exact hl rfl
    go_enter Tryd.func14, Tryd.ntmps14
    go_wp2
    go_ret
    exact ⟨ret_bool HD.out.symm, 0, rfl⟩

end Go.Proofs.YtmkaafnoanidpaaDoor
