/-
  What is handed over in an Op: three numbers, a row of numbers of 8 bits, a text.
-/
import Derived.Test.YtcdgphneljgooabDoorRows
import Derived.Test.YtcdgphneljgooabDoorBase
import Derived.ProofKit
import Derived.OpenShut
namespace Go.Proofs.YtcdgphneljgooabDoor
open Go.ChangeShapes Go.WideShapes Go.ChangeAt Go.RowKit

/-- The value v is a slice of the numbers zs (of 8 bits), in a block of p. -/
def RowIs (p : Nat → Prop) (W : World) (v : Value) (zs : List Int) : Prop :=
  ∃ ao cap, v = .slice ao zs.length cap ∧ zs.length ≤ 140737488351232 ∧
    (zs ≠ [] → ∃ b off, ao = some ⟨b, off, none⟩ ∧ p b ∧ b < W.heap.size ∧ ∀ i, i < zs.length → W.cell? ⟨b, off + i, none⟩ = some (.int .i8 (zs.getD i 0))) ∧
    (∀ z ∈ zs, -128 ≤ z ∧ z ≤ 127) ∧ (ao = none → cap = 0)

theorem RowIs.kept {p : Nat → Prop} {S : Nat → Prop} {W W' : World} {v : Value} {zs : List Int} (h : RowIs p W v zs) (hk : Kept S W W') (hn : ∀ b, p b → ¬ S b) : RowIs p W' v zs := by
  obtain ⟨ao, cap, hv, hl, hc, hz⟩ := h
  refine ⟨ao, cap, hv, hl, fun h0 => ?_, hz⟩
  obtain ⟨b, off, ha, hp, hb, hcell⟩ := hc h0
  exact ⟨b, off, ha, hp, Nat.lt_of_lt_of_le hb hk.size, fun i hi => (hk.cell (p := ⟨b, off + i, none⟩) hb (hn b hp)).trans (hcell i hi)⟩

theorem RowIs.mono {p q : Nat → Prop} {W : World} {v : Value} {zs : List Int} (h : RowIs p W v zs) (hpq : ∀ b, p b → q b) : RowIs q W v zs := by
  obtain ⟨ao, cap, hv, hl, hc, hz⟩ := h
  exact ⟨ao, cap, hv, hl, fun h0 => let ⟨b, off, ha, hp, r⟩ := hc h0; ⟨b, off, ha, hpq b hp, r⟩, hz⟩

theorem list5 {α : Type} {l : List α} (h : l.length = 5) : ∃ a b c d e, l = [a, b, c, d, e] := by
  match l, h with
  | [a, b, c, d, e], _ => exact ⟨a, b, c, d, e, rfl⟩

theorem Tryd.cOp : Tryd.prog.cellsOf 24 = 5 := by kernel_rfl
theorem Tryd.cI : Tryd.prog.cellsOf 3 = 1 := by kernel_rfl
theorem Tryd.cR : Tryd.prog.cellsOf 22 = 1 := by kernel_rfl
theorem Tryd.cS : Tryd.prog.cellsOf 9 = 1 := by kernel_rfl
theorem Tryd.cI8 : Tryd.prog.cellsOf 47 = 1 := by kernel_rfl

/-- A slice of numbers of 8 bits, out of its reading. -/
theorem row_of {H : Type} {enc : TypeId × Value → H} {W : World} {fuel : Nat} {v : Value} {x : DataW H × List MemPlace} (h : DataW.trod enc Tryd.prog W 0 (fun _ => true) true fuel 22 [v] = some x)
    (hsz : ∀ es sp, x.1 = .slice es sp → es.length ≤ 140737488351232) : ∃ zs : List Int, RowIs (fun b => b < W.heap.size) W v zs ∧ (x.1 = .nil ∧ zs = [] ∨ ∃ sp, x.1 = .slice (lits .i8 zs) sp) := by
  rcases open_ints Tryd.underlying22 Tryd.underlying47 Tryd.cI8 h with ⟨hcs, hx⟩ | ⟨a, len, cap, zs, hcs, _, hl, hm, hz, hx, hcell, hwz⟩
  · refine ⟨[], ⟨none, 0, by simpa using hcs, by simp, fun h0 => absurd rfl h0, by simp, fun _ => rfl⟩, .inl ⟨by rw [hx], rfl⟩⟩
  · simp only [if_true] at hz
    have htl : (zs.take len).length = len := by rw [List.length_take]; omega
    refine ⟨zs.take len, ⟨some a, cap, ?_, ?_, fun h0 => ?_, ?_, fun e => by cases e⟩, .inr ⟨_, by rw [hx]⟩⟩
    · rw [htl]; simpa using hcs
    · have := hsz _ _ (by rw [hx])
      simpa [lits] using this
    · have hpos : 0 < len := by
        rcases Nat.eq_zero_or_pos len with e | e
        · subst e; simp at h0
        · exact e
      obtain ⟨b, off, rfl, hc⟩ := ints_at hcell (by omega)
      refine ⟨b, off, rfl, ?_, ?_, fun i hi => ?_⟩
      · have := World.block_lt_of_cell? W _ (hc 0 (by omega)); simpa using this
      · have := World.block_lt_of_cell? W _ (hc 0 (by omega)); simpa using this
      · rw [htl] at hi
        rw [hc i (by omega), List.getD_eq_getElem?_getD, List.getD_eq_getElem?_getD, List.getElem?_take_of_lt hi]
    · intro z hzm
      have := hwz z (List.mem_of_mem_take hzm)
      have := bounds_i8 this
      omega

theorem op_parts {H : Type} {enc : TypeId × Value → H} {W : World} {fuel : Nat} {cs : List Value} {x : DataW H × List MemPlace} (h : DataW.trod enc Tryd.prog W 0 (fun _ => true) true fuel 24 cs = some x) :
    ∃ (k n b : Int) (v3 : Value) (s : ByteArray) (m : Nat) (y3 : DataW H × List MemPlace), cs = [.int .i64 k, .int .i64 n, .int .i64 b, v3, .string s] ∧
      (-9223372036854775808 ≤ k ∧ k ≤ 9223372036854775807) ∧ (-9223372036854775808 ≤ n ∧ n ≤ 9223372036854775807) ∧ (-9223372036854775808 ≤ b ∧ b ≤ 9223372036854775807) ∧
      DataW.trod enc Tryd.prog W 0 (fun _ => true) true m 22 [v3] = some y3 ∧ s.size ≤ maxLen ∧
      x.1 = .agg [.lit (.int .i64 k), .lit (.int .i64 n), .lit (.int .i64 b), y3.1, .lit (.string s.data.toList)] := by
  obtain ⟨xs, m, _, hxe, hl, hx, hfs⟩ := DataW.trod_struct Tryd.underlying24 h
  rw [Tryd.cOp] at hl
  obtain ⟨c0, c1, c2, c3, c4, rfl⟩ := list5 hl
  obtain ⟨x0, x1, x2, x3, x4, rfl⟩ := list5 (show xs.length = 5 from hx)
  have h0 : DataW.trod enc Tryd.prog W 0 (fun _ => true) true m 3 [c0] = some x0 := by simpa [Tryd.cI] using hfs 0 _ rfl
  have h1 : DataW.trod enc Tryd.prog W 0 (fun _ => true) true m 3 [c1] = some x1 := by simpa [Tryd.cI] using hfs 1 _ rfl
  have h2 : DataW.trod enc Tryd.prog W 0 (fun _ => true) true m 3 [c2] = some x2 := by simpa [Tryd.cI] using hfs 2 _ rfl
  have h3 : DataW.trod enc Tryd.prog W 0 (fun _ => true) true m 22 [c3] = some x3 := by simpa [Tryd.cR] using hfs 3 _ rfl
  have h4 : DataW.trod enc Tryd.prog W 0 (fun _ => true) true m 9 [c4] = some x4 := by simpa [Tryd.cS] using hfs 4 _ rfl
  obtain ⟨k, e0, rfl, w0⟩ := DataW.trod_int Tryd.underlying3 h0
  obtain ⟨n, e1, rfl, w1⟩ := DataW.trod_int Tryd.underlying3 h1
  obtain ⟨b, e2, rfl, w2⟩ := DataW.trod_int Tryd.underlying3 h2
  obtain ⟨s, e4, rfl, w4⟩ := DataW.trod_string Tryd.underlying9 h4
  simp only [List.cons.injEq, and_true] at e0 e1 e2 e4
  subst e0 e1 e2 e4
  exact ⟨k, n, b, c3, s, m, x3, rfl, bounds_i64 w0, bounds_i64 w1, bounds_i64 w2, h3, w4, by rw [hxe]; rfl⟩

theorem row_shape {H : Type} {enc : TypeId × Value → H} {W : World} {fuel : Nat} {v : Value} {x : DataW H × List MemPlace} (h : DataW.trod enc Tryd.prog W 0 (fun _ => true) true fuel 22 [v] = some x) : ∃ ao ln cp, v = .slice ao ln cp := by
  rcases open_ints Tryd.underlying22 Tryd.underlying47 Tryd.cI8 h with ⟨hcs, _⟩ | ⟨a, len, cap, zs, hcs, _⟩
  · exact ⟨none, 0, 0, by simpa using hcs⟩
  · exact ⟨some a, len, cap, by simpa using hcs⟩

end Go.Proofs.YtcdgphneljgooabDoor
