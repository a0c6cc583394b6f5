/-
  A row of int64 copied; a row out of its reading.
-/
import Derived.Test.YtohimhojieeloaaDoorLay
import Derived.Test.YtohimhojieeloaaDoorAm
import Derived.Deep.AppendSrc
import Derived.Lib.AppendZeros
namespace Go.Proofs.YtohimhojieeloaaDoor
open Go.ChangeShapes Go.WideShapes Go.ChangeAt Go.RowKit

theorem Tryd.info64 : (Tryd.prog.info? 2).map (fun i => (i.zero, i.size, i.bytes)) = some (some (.int .i64 0), 1, 8) := by kernel_rfl
theorem Tryd.c64 : Tryd.prog.cellsOf 2 = 1 := by kernel_rfl
theorem Tryd.b64 : Tryd.prog.bytesOf 2 = 8 := by kernel_rfl

theorem ownsRow_shape {w : World} {base : Nat} {e : TypeId} {size : Nat} {v : Value} {n : Nat} {xs : List Value} (h : w.ownsRow base e size v n xs) : ∃ ao cp, v = .slice ao n cp := by
  rcases h.2 with ⟨h, h0⟩ | ⟨g, cap, cur, h, _⟩
  · exact ⟨none, 0, by rw [h, h0]⟩
  · exact ⟨_, cap, h⟩

theorem own64_empty (w : World) : (w.alloc (.cells #[] 2)).ownsRow w.heap.size 2 1 (.slice (some ⟨w.heap.size, 0, none⟩) 0 0) 0 [] :=
  ⟨rfl, .inr ⟨w.heap.size, 0, #[], rfl, Nat.le_refl _, heap_alloc_new w _, Nat.le_refl _, Nat.zero_le _, rfl, rfl⟩⟩

/-- A row that is the call's own is a row of numbers. -/
theorem rw_of_own {B : Nat} {w : World} {v : Value} {zs : List Int} (h : w.ownsRow B 2 1 v zs.length (zs.map (Value.int .i64))) (hl : zs.length ≤ 17592186044416) (hz : ∀ z ∈ zs, I64 z) : Rw (fun k => B ≤ k ∧ k < w.heap.size) w v zs := by
  rcases h.2 with ⟨rfl, h0⟩ | ⟨g, cap, cur, rfl, hb, hg, _⟩
  · have e : zs = [] := List.eq_nil_of_length_eq_zero h0
    subst e
    exact ⟨none, 0, rfl, by simp, fun h => absurd rfl h, by simp, fun _ => rfl⟩
  · refine ⟨_, cap, rfl, hl, fun _ => ⟨g, 0, rfl, ⟨hb, lt_of_heap hg⟩, lt_of_heap hg, fun i hi => ?_⟩, hz, fun e => by cases e⟩
    rw [Nat.zero_add, h.cellAt i (by omega), List.getElem?_map, List.getD_eq_getElem?_getD, List.getElem?_eq_getElem hi]
    rfl

/-- append([]int64{}, row...). -/
theorem twin64 (ty : TypeId) (W : World) (B : Nat) (v0 : Value) (hown : W.ownsRow B 2 1 v0 0 []) (hB : B ≤ W.heap.size) (rv : Value) (zs : List Int) (p : Nat → Prop) (hr : Rw p W rv zs) :
    ∃ tv W', (Builtin.append_ #[22, 22] ty #[v0, rv]).run Tryd.prog W = .ok tv W' ∧ W'.ownsRow B 2 1 tv zs.length (zs.map (Value.int .i64)) ∧ W.grownBy W' v0.ownBlock := by
  obtain ⟨i0, hi, hz0, hz1, hz2⟩ := info_parts Tryd.info64
  obtain ⟨ao, cap, rfl, hzl, hcell, _, hn⟩ := hr
  cases ao with
  | none =>
    have e : zs = [] := by
      rcases zs with _ | ⟨z, r⟩
      · rfl
      · obtain ⟨b, off, h, _⟩ := hcell (by simp)
        cases h
    subst e
    rw [hn rfl]
    exact ⟨v0, W, run_append_owned_none (P := Tryd.prog) W B _ _ _ i0 1 Tryd.underlying22 hi v0 0 [] hown, by simpa using hown, ⟨rfl, rfl, rfl, Nat.le_refl _, fun _ _ _ => rfl⟩⟩
  | some a =>
    obtain ⟨v', w', h1, h2, h3, _⟩ := run_append_own (P := Tryd.prog) W B 22 ty 2 i0 (.int .i64 0) 1 8 Tryd.underlying22 hi hz0 hz1 hz2 rfl (by omega) v0 0 [] hown a zs.length cap (zs.map (Value.int .i64)) (by simp)
      (fun j u hj => by
        have hj' : j < zs.length := by have := (List.getElem?_eq_some_iff.1 hj).1; simpa using this
        obtain ⟨b, off, h, _, _, hc⟩ := hcell (fun e => by rw [e] at hj'; simp at hj')
        simp only [Option.some.injEq] at h
        subst h
        rw [List.getElem?_map, List.getElem?_eq_getElem hj'] at hj
        simp only [Option.map_some, Option.some.injEq] at hj
        have := hc j hj'
        rw [List.getD_eq_getElem?_getD, List.getElem?_eq_getElem hj'] at this
        rw [← hj, Addr.add_lit]
        exact this)
      (fun u hu => by obtain ⟨_, _, rfl⟩ := List.mem_map.1 hu; rfl) (by unfold maxLen; omega) (by omega) hB
    rw [Nat.zero_add, List.nil_append] at h2
    exact ⟨v', w', h1, h2, h3⟩

/-- A slice of int64, out of its reading. -/
theorem rw_of {H : Type} {enc : TypeId × Value → H} {W : World} {fuel : Nat} {v : Value} {x : DataW H × List MemPlace} (h : DataW.trod enc Tryd.prog W 0 (fun _ => true) true fuel 22 [v] = some x)
    (hsz : ∀ es sp, x.1 = .slice es sp → es.length ≤ 17592186044416) : ∃ zs : List Int, Rw (fun b => b < W.heap.size) W v zs ∧ (x.1 = .nil ∧ zs = [] ∨ ∃ sp, x.1 = .slice (lits .i64 zs) sp) := by
  rcases open_ints Tryd.underlying22 Tryd.underlying2 Tryd.c64 h with ⟨hcs, hx⟩ | ⟨a, len, cap, zs, hcs, _, hl, hm, hz, hx, hcell, hwz⟩
  · refine ⟨[], ⟨none, 0, by simpa using hcs, by simp, fun h0 => absurd rfl h0, by simp, fun _ => rfl⟩, .inl ⟨by rw [hx], rfl⟩⟩
  · simp only [if_true] at hz
    have htl : (zs.take len).length = len := by rw [List.length_take]; omega
    refine ⟨zs.take len, ⟨some a, cap, ?_, ?_, fun h0 => ?_, ?_, fun e => by cases e⟩, .inr ⟨_, by rw [hx]⟩⟩
    · rw [htl]; simpa using hcs
    · have := hsz _ _ (by rw [hx])
      simpa [lits] using this
    · have hpos : 0 < len := by
        rcases Nat.eq_zero_or_pos len with e | e
        · subst e; simp at h0
        · exact e
      obtain ⟨b, off, rfl, hc⟩ := ints_at hcell (by omega)
      refine ⟨b, off, rfl, ?_, ?_, fun i hi => ?_⟩
      · have := World.block_lt_of_cell? W _ (hc 0 (by omega)); simpa using this
      · have := World.block_lt_of_cell? W _ (hc 0 (by omega)); simpa using this
      · rw [htl] at hi
        rw [hc i (by omega), List.getD_eq_getElem?_getD, List.getD_eq_getElem?_getD, List.getElem?_take_of_lt hi]
    · intro z hzm
      have := hwz z (List.mem_of_mem_take hzm)
      exact i64_of this

end Go.Proofs.YtohimhojieeloaaDoor
