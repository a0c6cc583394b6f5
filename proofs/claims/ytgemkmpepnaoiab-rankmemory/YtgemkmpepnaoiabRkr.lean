/-
  Rows of int64 and of int; a row copied; a row out of its reading.
-/
import Derived.Test.YtgemkmpepnaoiabRkb
import Derived.Test.YtgemkmpepnaoiabFrQ
namespace Go.Proofs.Ytgemkmpepnaoiab
open Go.ChangeShapes Go.WideShapes Go.ChangeAt Go.RowKit

def I64 (z : Int) : Prop := -9223372036854775808 ≤ z ∧ z ≤ 9223372036854775807
/-- v is a row of these numbers, in a block that p allows. -/
def Rw (p : Nat → Prop) (W : World) (v : Value) (zs : List Int) : Prop :=
  ∃ ao cap, v = .slice ao zs.length cap ∧ zs.length ≤ 17592186044416 ∧
    (zs ≠ [] → ∃ b off, ao = some ⟨b, off, none⟩ ∧ p b ∧ b < W.heap.size ∧ ∀ i, i < zs.length → W.cell? ⟨b, off + i, none⟩ = some (.int .i64 (zs.getD i 0))) ∧
    (∀ z ∈ zs, I64 z) ∧ (ao = none → cap = 0)
theorem Rw.kept {p : Nat → Prop} {S : Nat → Prop} {W W' : World} {v : Value} {zs : List Int} (h : Rw p W v zs) (hk : Kept S W W') (hn : ∀ b, p b → ¬ S b) : Rw p W' v zs := by
  obtain ⟨ao, cap, hv, hl, hc, hz⟩ := h
  refine ⟨ao, cap, hv, hl, fun h0 => ?_, hz⟩
  obtain ⟨b, off, ha, hp, hb, hcell⟩ := hc h0
  exact ⟨b, off, ha, hp, Nat.lt_of_lt_of_le hb hk.size, fun i hi => (hk.cell (p := ⟨b, off + i, none⟩) hb (hn b hp)).trans (hcell i hi)⟩
theorem Rw.fresh {p : Nat → Prop} {W W' : World} {v : Value} {zs : List Int} (h : Rw p W v zs) (hk : Fresh W W') : Rw p W' v zs := h.kept hk (fun _ _ e => e)
theorem Rw.mono {p q : Nat → Prop} {W : World} {v : Value} {zs : List Int} (h : Rw p W v zs) (hpq : ∀ b, p b → q b) : Rw q W v zs := by
  obtain ⟨ao, cap, hv, hl, hc, hz⟩ := h
  exact ⟨ao, cap, hv, hl, fun h0 => let ⟨b, off, ha, hp, r⟩ := hc h0; ⟨b, off, ha, hpq b hp, r⟩, hz⟩
theorem Rw.get {p : Nat → Prop} {W : World} {v : Value} {zs : List Int} (h : Rw p W v zs) (i : Nat) : I64 (zs.getD i 0) := by
  obtain ⟨ao, cap, hv, hl, hc, hz, _⟩ := h
  rcases Nat.lt_or_ge i zs.length with h | h
  · rw [List.getD_eq_getElem?_getD, List.getElem?_eq_getElem h]
    exact hz _ (List.getElem_mem h)
  · rw [List.getD_eq_getElem?_getD, List.getElem?_eq_none h]
    exact ⟨by decide, by decide⟩
theorem Rw.len {p : Nat → Prop} {W : World} {v : Value} {zs : List Int} (h : Rw p W v zs) : zs.length ≤ 17592186044416 := by obtain ⟨_, _, _, h, _⟩ := h; exact h
theorem Rw.all {p : Nat → Prop} {W : World} {v : Value} {zs : List Int} (h : Rw p W v zs) : ∀ z ∈ zs, I64 z := by obtain ⟨_, _, _, _, _, h, _⟩ := h; exact h
theorem kept_drewN (S : Nat → Prop) (w : World) (n : Nat) : Kept S w (w.drewN n) := ⟨rfl, rfl, rfl, Nat.le_refl _, fun _ _ _ => rfl⟩
theorem Kept.drewN {S : Nat → Prop} {a w : World} (h : Kept S a w) (n : Nat) : Kept S a (w.drewN n) := h.trans (kept_drewN S w n) (fun _ _ e => e)

theorem Try.info64 : (Try.prog.info? 2).map (fun i => (i.zero, i.size, i.bytes)) = some (some (.int .i64 0), 1, 8) := by kernel_rfl
theorem Try.c64 : Try.prog.cellsOf 2 = 1 := by kernel_rfl
theorem Try.b64 : Try.prog.bytesOf 2 = 8 := by kernel_rfl

theorem ownsRow_shape {w : World} {base : Nat} {e : TypeId} {size : Nat} {v : Value} {n : Nat} {xs : List Value} (h : w.ownsRow base e size v n xs) : ∃ ao cp, v = .slice ao n cp := by
  rcases h.2 with ⟨h, h0⟩ | ⟨g, cap, cur, h, _⟩
  · exact ⟨none, 0, by rw [h, h0]⟩
  · exact ⟨_, cap, h⟩
theorem own64_empty (w : World) : (w.alloc (.cells #[] 2)).ownsRow w.heap.size 2 1 (.slice (some ⟨w.heap.size, 0, none⟩) 0 0) 0 [] :=
  ⟨rfl, .inr ⟨w.heap.size, 0, #[], rfl, Nat.le_refl _, heap_alloc_new w _, Nat.le_refl _, Nat.zero_le _, rfl, rfl⟩⟩
/-- A row that is the call's own is a row of numbers. -/
theorem rw_of_own {B : Nat} {e : TypeId} {w : World} {v : Value} {zs : List Int} (h : w.ownsRow B e 1 v zs.length (zs.map (Value.int .i64))) (hl : zs.length ≤ 17592186044416) (hz : ∀ z ∈ zs, I64 z) : Rw (fun k => B ≤ k ∧ k < w.heap.size) w v zs := by
  rcases h.2 with ⟨rfl, h0⟩ | ⟨g, cap, cur, rfl, hb, hg, _⟩
  · have e : zs = [] := List.eq_nil_of_length_eq_zero h0
    subst e
    exact ⟨none, 0, rfl, by simp, fun h => absurd rfl h, by simp, fun _ => rfl⟩
  · refine ⟨_, cap, rfl, hl, fun _ => ⟨g, 0, rfl, ⟨hb, lt_of_heap hg⟩, lt_of_heap hg, fun i hi => ?_⟩, hz, fun e => by cases e⟩
    rw [Nat.zero_add, h.cellAt i (by omega), List.getElem?_map, List.getD_eq_getElem?_getD, List.getElem?_eq_getElem hi]
    rfl
/-- append([]int64{}, row...). -/
theorem twin64 (ty : TypeId) (W : World) (B : Nat) (v0 : Value) (hown : W.ownsRow B 2 1 v0 0 []) (hB : B ≤ W.heap.size) (rv : Value) (zs : List Int) (p : Nat → Prop) (hr : Rw p W rv zs) :
    ∃ tv W', (Builtin.append_ #[22, 22] ty #[v0, rv]).run Try.prog W = .ok tv W' ∧ W'.ownsRow B 2 1 tv zs.length (zs.map (Value.int .i64)) ∧ W.grownBy W' v0.ownBlock := by
  obtain ⟨i0, hi, hz0, hz1, hz2⟩ := info_parts Try.info64
  obtain ⟨ao, cap, rfl, hzl, hcell, _, hn⟩ := hr
  cases ao with
  | none =>
    have e : zs = [] := by
      rcases zs with _ | ⟨z, r⟩
      · rfl
      · obtain ⟨b, off, h, _⟩ := hcell (by simp)
        cases h
    subst e
    rw [hn rfl]
    exact ⟨v0, W, run_append_owned_none (P := Try.prog) W B _ _ _ i0 1 Try.underlying22 hi v0 0 [] hown, by simpa using hown, ⟨rfl, rfl, rfl, Nat.le_refl _, fun _ _ _ => rfl⟩⟩
  | some a =>
    obtain ⟨v', w', h1, h2, h3, _⟩ := run_append_own (P := Try.prog) W B 22 ty 2 i0 (.int .i64 0) 1 8 Try.underlying22 hi hz0 hz1 hz2 rfl (by omega) v0 0 [] hown a zs.length cap (zs.map (Value.int .i64)) (by simp)
      (fun j u hj => by
        have hj' : j < zs.length := by have := (List.getElem?_eq_some_iff.1 hj).1; simpa using this
        obtain ⟨b, off, h, _, _, hc⟩ := hcell (fun e => by rw [e] at hj'; simp at hj')
        simp only [Option.some.injEq] at h
        subst h
        rw [List.getElem?_map, List.getElem?_eq_getElem hj'] at hj
        simp only [Option.map_some, Option.some.injEq] at hj
        have := hc j hj'
        rw [List.getD_eq_getElem?_getD, List.getElem?_eq_getElem hj'] at this
        rw [← hj, Addr.add_lit]
        exact this)
      (fun u hu => by obtain ⟨_, _, rfl⟩ := List.mem_map.1 hu; rfl) (by unfold maxLen; omega) (by omega) hB
    rw [Nat.zero_add, List.nil_append] at h2
    exact ⟨v', w', h1, h2, h3⟩
/-- A slice of int64, out of its reading. -/
theorem rw_of {H : Type} {enc : TypeId × Value → H} {W : World} {fuel : Nat} {v : Value} {x : DataW H × List MemPlace} (h : DataW.trod enc Try.prog W 0 (fun _ => true) true fuel 22 [v] = some x)
    (hsz : ∀ es sp, x.1 = .slice es sp → es.length ≤ 17592186044416) : ∃ zs : List Int, Rw (fun b => b < W.heap.size) W v zs ∧ (x.1 = .nil ∧ zs = [] ∨ ∃ sp, x.1 = .slice (lits .i64 zs) sp) := by
  rcases open_ints Try.underlying22 Try.underlying2 Try.c64 h with ⟨hcs, hx⟩ | ⟨a, len, cap, zs, hcs, _, hl, hm, hz, hx, hcell, hwz⟩
  · refine ⟨[], ⟨none, 0, by simpa using hcs, by simp, fun h0 => absurd rfl h0, by simp, fun _ => rfl⟩, .inl ⟨by rw [hx], rfl⟩⟩
  · simp only [if_true] at hz
    have htl : (zs.take len).length = len := by rw [List.length_take]; omega
    refine ⟨zs.take len, ⟨some a, cap, ?_, ?_, fun h0 => ?_, ?_, fun e => by cases e⟩, .inr ⟨_, by rw [hx]⟩⟩
    · rw [htl]; simpa using hcs
    · have := hsz _ _ (by rw [hx])
      simpa [lits] using this
    · have hpos : 0 < len := by
        rcases Nat.eq_zero_or_pos len with e | e
        · subst e; simp at h0
        · exact e
      obtain ⟨b, off, rfl, hc⟩ := ints_at hcell (by omega)
      refine ⟨b, off, rfl, ?_, ?_, fun i hi => ?_⟩
      · have := World.block_lt_of_cell? W _ (hc 0 (by omega)); simpa using this
      · have := World.block_lt_of_cell? W _ (hc 0 (by omega)); simpa using this
      · rw [htl] at hi
        rw [hc i (by omega), List.getD_eq_getElem?_getD, List.getD_eq_getElem?_getD, List.getElem?_take_of_lt hi]
    · intro z hzm
      have := hwz z (List.mem_of_mem_take hzm)
      exact i64_of this
/-- A block that holds numbers is a row of them. -/
theorem rw_of_at {w : World} {b : Nat} {L : List Int} (h : At w b L) (cap : Nat) (hl : L.length ≤ 17592186044416) (hz : ∀ z ∈ L, I64 z) : Rw (fun k => k = b) w (.slice (some ⟨b, 0, none⟩) L.length cap) L :=
  ⟨_, cap, rfl, hl, fun _ => ⟨b, 0, rfl, rfl, lt_of_heap h, fun i hi => by rw [Nat.zero_add, h.cell, List.getElem?_eq_getElem hi, List.getD_eq_getElem?_getD, List.getElem?_eq_getElem hi]; rfl⟩, hz, fun e => by cases e⟩
end Go.Proofs.Ytgemkmpepnaoiab
