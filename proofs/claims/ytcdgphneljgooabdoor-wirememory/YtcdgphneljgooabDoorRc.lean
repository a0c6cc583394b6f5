/-
  A row copied; a script of Ops as it lies in memory.
-/
import Derived.Test.YtcdgphneljgooabDoorRb
namespace Go.Proofs.YtcdgphneljgooabDoor
open Go.RowKit

theorem Tryd.info8 : (Tryd.prog.info? 47).map (fun i => (i.zero, i.size, i.bytes)) = some (some (.int .i8 0), 1, 1) := by kernel_rfl

theorem own8_empty (w : World) : (w.alloc (.cells #[] 47)).ownsRow w.heap.size 47 1 (.slice (some ⟨w.heap.size, 0, none⟩) 0 0) 0 [] :=
  ⟨rfl, .inr ⟨w.heap.size, 0, #[], rfl, Nat.le_refl _, heap_alloc_new w _, Nat.le_refl _, Nat.zero_le _, rfl, rfl⟩⟩

/-- A row that is the call's own is a row of numbers. -/
theorem rowIs_of_own {B : Nat} {w : World} {v : Value} {zs : List Int} (h : w.ownsRow B 47 1 v zs.length (zs.map (Value.int .i8))) (hl : zs.length ≤ 140737488351232) (hz : ∀ z ∈ zs, -128 ≤ z ∧ z ≤ 127) : RowIs (fun k => B ≤ k) w v zs := by
  rcases h.2 with ⟨rfl, h0⟩ | ⟨g, cap, cur, rfl, hb, hg, _⟩
  · have e : zs = [] := List.eq_nil_of_length_eq_zero h0
    subst e
    exact ⟨none, 0, rfl, by simp, fun h => absurd rfl h, by simp, fun _ => rfl⟩
  · refine ⟨_, cap, rfl, hl, fun _ => ⟨g, 0, rfl, hb, lt_of_heap hg, fun i hi => ?_⟩, hz, fun e => by cases e⟩
    rw [Nat.zero_add, h.cellAt i (by omega), List.getElem?_map, List.getD_eq_getElem?_getD, List.getElem?_eq_getElem hi]
    rfl

/-- append([]int8{}, row...). -/
theorem twin_own (ty : TypeId) (W : World) (B : Nat) (v0 : Value) (hown : W.ownsRow B 47 1 v0 0 []) (hB : B ≤ W.heap.size) (rv : Value) (zs : List Int) (p : Nat → Prop) (hr : RowIs p W rv zs) :
    ∃ tv W', (Builtin.append_ #[22, 22] ty #[v0, rv]).run Tryd.prog W = .ok tv W' ∧ W'.ownsRow B 47 1 tv zs.length (zs.map (Value.int .i8)) ∧ W.grownBy W' v0.ownBlock := by
  obtain ⟨i0, hi, hz0, hz1, hz2⟩ := info_parts Tryd.info8
  obtain ⟨ao, cap, rfl, hzl, hcell, _, hn⟩ := hr
  cases ao with
  | none =>
    have e : zs = [] := by
      rcases zs with _ | ⟨z, r⟩
      · rfl
      · obtain ⟨b, off, h, _⟩ := hcell (by simp)
        cases h
    subst e
    rw [hn rfl]
    exact ⟨v0, W, run_append_owned_none (P := Tryd.prog) W B _ _ _ i0 1 Tryd.underlying22 hi v0 0 [] hown, by simpa using hown, ⟨rfl, rfl, rfl, Nat.le_refl _, fun _ _ _ => rfl⟩⟩
  | some a =>
    obtain ⟨v', w', h1, h2, h3, _⟩ := run_append_own (P := Tryd.prog) W B 22 ty 47 i0 (.int .i8 0) 1 1 Tryd.underlying22 hi hz0 hz1 hz2 rfl (by omega) v0 0 [] hown a zs.length cap (zs.map (Value.int .i8)) (by simp)
      (fun j u hj => by
        have hj' : j < zs.length := by have := (List.getElem?_eq_some_iff.1 hj).1; simpa using this
        obtain ⟨b, off, h, _, _, hc⟩ := hcell (fun e => by rw [e] at hj'; simp at hj')
        simp only [Option.some.injEq] at h
        subst h
        rw [List.getElem?_map, List.getElem?_eq_getElem hj'] at hj
        simp only [Option.map_some, Option.some.injEq] at hj
        have := hc j hj'
        rw [List.getD_eq_getElem?_getD, List.getElem?_eq_getElem hj'] at this
        rw [← hj, Addr.add_lit]
        exact this)
      (fun u hu => by obtain ⟨_, _, rfl⟩ := List.mem_map.1 hu; rfl) (by unfold maxLen; omega) (by omega) hB
    rw [Nat.zero_add, List.nil_append] at h2
    exact ⟨v', w', h1, h2, h3⟩

theorem twin_run (ty : TypeId) (W : World) (B : Nat) (v0 : Value) (hown : W.ownsRow B 47 1 v0 0 []) (hB : B ≤ W.heap.size) (rv : Value) (zs : List Int) (p : Nat → Prop) (hr : RowIs p W rv zs) :
    ∃ tv W', (Builtin.append_ #[22, 22] ty #[v0, rv]).run Tryd.prog W = .ok tv W' ∧ RowIs (fun k => B ≤ k) W' tv zs ∧ W.grownBy W' v0.ownBlock := by
  obtain ⟨tv, W', h1, h2, h3⟩ := twin_own ty W B v0 hown hB rv zs p hr
  obtain ⟨_, _, _, hzl, _, hrange, _⟩ := hr
  exact ⟨tv, W', h1, rowIs_of_own h2 hzl hrange, h3⟩

/-- An Op. -/
structure OpD where
  k : Int
  n : Int
  b : Int
  rv : Value
  zs : List Int
  s : ByteArray

/-- What the statements hand over fits its types. -/
def OpD.Fits (B : Nat) (w : World) (o : OpD) : Prop :=
  (-9223372036854775808 ≤ o.n ∧ o.n ≤ 9223372036854775807) ∧ (-9223372036854775808 ≤ o.b ∧ o.b ≤ 9223372036854775807) ∧ RowIs (fun k => k < B) w o.rv o.zs ∧ o.s.size ≤ 1048576

/-- The Ops of a script lie in memory, below block B. -/
def ScriptIs (B : Nat) (w : World) (v : Value) (l : List OpD) : Prop :=
  ∃ ao cap, v = .slice ao l.length cap ∧ l.length ≤ 1048576 ∧ (l ≠ [] → ∃ b off, ao = some ⟨b, off, none⟩ ∧ b < B ∧ b < w.heap.size ∧ ∀ i (h : i < l.length),
    w.cell? ⟨b, off + i * 5, none⟩ = some (.int .i64 l[i].k) ∧ w.cell? ⟨b, off + i * 5 + 1, none⟩ = some (.int .i64 l[i].n) ∧ w.cell? ⟨b, off + i * 5 + 2, none⟩ = some (.int .i64 l[i].b) ∧
    w.cell? ⟨b, off + i * 5 + 3, none⟩ = some l[i].rv ∧ w.cell? ⟨b, off + i * 5 + 4, none⟩ = some (.string l[i].s)) ∧ ∀ o ∈ l, o.Fits B w

/-- How many bytes an Op may write. -/
def OpD.room (o : OpD) : Nat := 16 + o.zs.length + o.s.size
def room (l : List OpD) : Nat := (l.map OpD.room).sum
theorem room_take_succ (l : List OpD) (j : Nat) (h : j < l.length) : room (l.take (j + 1)) = room (l.take j) + l[j].room := by
  unfold room
  rw [List.take_succ_eq_append_getElem h, List.map_append, List.sum_append]
  simp
theorem room_take_le (l : List OpD) (j : Nat) : room (l.take j) ≤ room l := by
  unfold room
  conv => rhs; rw [← List.take_append_drop j l, List.map_append, List.sum_append]
  omega

theorem cells5 {W : World} {og : Nat} {a b c d e : Value} {t : TypeId} (h : W.heap[og]? = some (.cells #[a, b, c, d, e] t (0, 0))) :
    W.cell? ⟨og, 0, none⟩ = some a ∧ W.cell? ⟨og, 1, none⟩ = some b ∧ W.cell? ⟨og, 2, none⟩ = some c ∧ W.cell? ⟨og, 3, none⟩ = some d ∧ W.cell? ⟨og, 4, none⟩ = some e := by
  simp [World.cell?, h]

end Go.Proofs.YtcdgphneljgooabDoor
