/-
  Rows of int64; their products.
-/
import Derived.Test.YtgdkbiidjaplhaaDoorWv
import Derived.Test.YtgdkbiidjaplhaaDoorNl
import Derived.Deep.AppendSrc
import Derived.Lib.AppendZeros
namespace Go.Proofs.YtgdkbiidjaplhaaDoor
open Go.ChangeShapes Go.WideShapes Go.ChangeAt Go.RowKit

def I64 (x : Int) : Prop := -9223372036854775808 ≤ x ∧ x ≤ 9223372036854775807
/-- A row of int64. -/
def Rw (W : World) (v : Value) (zs : List Int) : Prop :=
  ∃ ao cap, v = .slice ao zs.length cap ∧ zs.length ≤ 17592186044416 ∧
    (zs ≠ [] → ∃ b off, ao = some ⟨b, off, none⟩ ∧ b < W.heap.size ∧ ∀ i, i < zs.length → W.cell? ⟨b, off + i, none⟩ = some (.int .i64 (zs.getD i 0))) ∧
    (∀ z ∈ zs, I64 z) ∧ (ao = none → cap = 0)
theorem Rw.fresh {W W' : World} {v : Value} {zs : List Int} (h : Rw W v zs) (hk : Fresh W W') : Rw W' v zs := by
  obtain ⟨ao, cap, hv, hl, hc, hz⟩ := h
  refine ⟨ao, cap, hv, hl, fun h0 => ?_, hz⟩
  obtain ⟨b, off, ha, hb, hcell⟩ := hc h0
  exact ⟨b, off, ha, Nat.lt_of_lt_of_le hb hk.size, fun i hi => (hk.cell (p := ⟨b, off + i, none⟩) hb (fun e => e)).trans (hcell i hi)⟩
theorem Rw.shape {W : World} {v : Value} {zs : List Int} (h : Rw W v zs) : ∃ a c, v = .slice a zs.length c := let ⟨a, c, h, _⟩ := h; ⟨a, c, h⟩
theorem Rw.get {W : World} {v : Value} {zs : List Int} (h : Rw W v zs) (i : Nat) : I64 (zs.getD i 0) := by
  obtain ⟨_, _, _, _, _, hz, _⟩ := h
  rw [List.getD_eq_getElem?_getD]
  cases e : zs[i]? with
  | none => exact ⟨by simp, by simp⟩
  | some d => exact hz d (List.mem_of_getElem? e)

theorem Tryd.info64 : (Tryd.prog.info? 2).map (fun i => (i.zero, i.size, i.bytes)) = some (some (.int .i64 0), 1, 8) := by kernel_rfl
theorem Tryd.c64 : Tryd.prog.cellsOf 2 = 1 := by kernel_rfl
theorem Tryd.b64 : Tryd.prog.bytesOf 2 = 8 := by kernel_rfl
theorem own64_empty (w : World) : (w.alloc (.cells #[] 2)).ownsRow w.heap.size 2 1 (.slice (some ⟨w.heap.size, 0, none⟩) 0 0) 0 [] :=
  ⟨rfl, .inr ⟨w.heap.size, 0, #[], rfl, Nat.le_refl _, heap_alloc_new w _, Nat.le_refl _, Nat.zero_le _, rfl, rfl⟩⟩
theorem rw_of_own {B : Nat} {w : World} {v : Value} {zs : List Int} (h : w.ownsRow B 2 1 v zs.length (zs.map (Value.int .i64))) (hl : zs.length ≤ 17592186044416) (hz : ∀ z ∈ zs, I64 z) : Rw w v zs := by
  rcases h.2 with ⟨rfl, h0⟩ | ⟨g, cap, cur, rfl, hb, hg, _⟩
  · have e : zs = [] := List.eq_nil_of_length_eq_zero h0
    subst e
    exact ⟨none, 0, rfl, by simp, fun h => absurd rfl h, by simp, fun _ => rfl⟩
  · refine ⟨_, cap, rfl, hl, fun _ => ⟨g, 0, rfl, lt_of_heap hg, fun i hi => ?_⟩, hz, fun e => by cases e⟩
    rw [Nat.zero_add, h.cellAt i (by omega), List.getElem?_map, List.getD_eq_getElem?_getD, List.getElem?_eq_getElem hi]
    rfl
/-- append([]int64{}, row...). -/
theorem twin64 (ty : TypeId) (W : World) (B : Nat) (v0 : Value) (hown : W.ownsRow B 2 1 v0 0 []) (hB : B ≤ W.heap.size) (rv : Value) (zs : List Int) (hr : Rw W rv zs) :
    ∃ tv W', (Builtin.append_ #[22, 22] ty #[v0, rv]).run Tryd.prog W = .ok tv W' ∧ W'.ownsRow B 2 1 tv zs.length (zs.map (Value.int .i64)) ∧ W.grownBy W' v0.ownBlock := by
  obtain ⟨i0, hi, hz0, hz1, hz2⟩ := info_parts Tryd.info64
  obtain ⟨ao, cap, rfl, hzl, hcell, _, hn⟩ := hr
  cases ao with
  | none =>
    have e : zs = [] := by
      rcases zs with _ | ⟨z, r⟩
      · rfl
      · obtain ⟨b, off, h, _⟩ := hcell (by simp)
        cases h
    subst e
    rw [hn rfl]
    exact ⟨v0, W, run_append_owned_none (P := Tryd.prog) W B _ _ _ i0 1 Tryd.underlying22 hi v0 0 [] hown, by simpa using hown, ⟨rfl, rfl, rfl, Nat.le_refl _, fun _ _ _ => rfl⟩⟩
  | some a =>
    obtain ⟨v', w', h1, h2, h3, _⟩ := run_append_own (P := Tryd.prog) W B 22 ty 2 i0 (.int .i64 0) 1 8 Tryd.underlying22 hi hz0 hz1 hz2 rfl (by omega) v0 0 [] hown a zs.length cap (zs.map (Value.int .i64)) (by simp)
      (fun j u hj => by
        have hj' : j < zs.length := by have := (List.getElem?_eq_some_iff.1 hj).1; simpa using this
        obtain ⟨b, off, h, _, hc⟩ := hcell (fun e => by rw [e] at hj'; simp at hj')
        simp only [Option.some.injEq] at h
        subst h
        rw [List.getElem?_map, List.getElem?_eq_getElem hj'] at hj
        simp only [Option.map_some, Option.some.injEq] at hj
        have := hc j hj'
        rw [List.getD_eq_getElem?_getD, List.getElem?_eq_getElem hj'] at this
        rw [← hj, Addr.add_lit]
        exact this)
      (fun u hu => by obtain ⟨_, _, rfl⟩ := List.mem_map.1 hu; rfl) (by unfold maxLen; omega) (by omega) hB
    rw [Nat.zero_add, List.nil_append] at h2
    exact ⟨v', w', h1, h2, h3⟩
/-- A slice of int64, out of its reading. -/
theorem rw_of {H : Type} {enc : TypeId × Value → H} {W : World} {fuel : Nat} {v : Value} {x : DataW H × List MemPlace} (h : DataW.trod enc Tryd.prog W 0 (fun _ => true) true fuel 22 [v] = some x)
    (hsz : ∀ es sp, x.1 = .slice es sp → es.length ≤ 17592186044416) : ∃ zs : List Int, Rw W v zs := by
  rcases open_ints Tryd.underlying22 Tryd.underlying2 Tryd.c64 h with ⟨hcs, hx⟩ | ⟨a, len, cap, zs, hcs, _, hl, hm, hz, hx, hcell, hwz⟩
  · exact ⟨[], ⟨none, 0, by simpa using hcs, by simp, fun h0 => absurd rfl h0, by simp, fun _ => rfl⟩⟩
  · simp only [if_true] at hz
    have htl : (zs.take len).length = len := by rw [List.length_take]; omega
    refine ⟨zs.take len, ⟨some a, cap, ?_, ?_, fun h0 => ?_, ?_, fun e => by cases e⟩⟩
    · rw [htl]; simpa using hcs
    · have := hsz _ _ (by rw [hx])
      simpa [lits] using this
    · have hpos : 0 < len := by
        rcases Nat.eq_zero_or_pos len with e | e
        · subst e; simp at h0
        · exact e
      obtain ⟨b, off, rfl, hc⟩ := ints_at hcell (by omega)
      refine ⟨b, off, rfl, ?_, fun i hi => ?_⟩
      · have := World.block_lt_of_cell? W _ (hc 0 (by omega)); simpa using this
      · rw [htl] at hi
        rw [hc i (by omega), List.getD_eq_getElem?_getD, List.getD_eq_getElem?_getD, List.getElem?_take_of_lt hi]
    · intro z hzm
      have := hwz z (List.mem_of_mem_take hzm)
      exact i64_of this

/-- The product of numbers from 0 on. -/
def prodN (l : List Int) : Nat := l.foldl (fun p z => p * z.toNat) 1
theorem foldl_mul (l : List Int) : ∀ a : Nat, l.foldl (fun p z => p * z.toNat) a = a * l.foldl (fun p z => p * z.toNat) 1 := by
  induction l with
  | nil => intro a; simp
  | cons z r ih => intro a; simp only [List.foldl_cons]; rw [ih (a * z.toNat), ih (1 * z.toNat), Nat.one_mul, Nat.mul_assoc]
theorem prodN_succ (l : List Int) (j : Nat) (h : j < l.length) : prodN (l.take (j + 1)) = prodN (l.take j) * (l.getD j 0).toNat := by
  unfold prodN
  rw [List.take_succ_eq_append_getElem h, List.foldl_append, List.getD_eq_getElem?_getD, List.getElem?_eq_getElem h]
  rfl
theorem prodN_pos (l : List Int) (h : ∀ z ∈ l, 0 < z) : 0 < prodN l := by
  unfold prodN
  induction l with
  | nil => simp
  | cons z r ih =>
    simp only [List.foldl_cons]
    rw [foldl_mul]
    have h1 := h z (List.mem_cons_self)
    have h2 := ih (fun x hx => h x (List.mem_cons_of_mem _ hx))
    exact Nat.mul_pos (by omega) h2
theorem prodN_le (l : List Int) (j : Nat) (h : ∀ z ∈ l, 0 < z) : prodN (l.take j) ≤ prodN l := by
  have e : prodN l = prodN (l.take j) * prodN (l.drop j) := by
    unfold prodN
    rw [← foldl_mul, ← List.foldl_append, List.take_append_drop]
  rw [e]
  exact Nat.le_mul_of_pos_right _ (prodN_pos _ (fun z hz => h z (List.mem_of_mem_drop hz)))
theorem foldl_min (l : List Int) : ∀ a : Int, l.foldl min a < 0 ↔ a < 0 ∨ ∃ z ∈ l, z < 0 := by
  induction l with
  | nil => intro a; simp
  | cons z r ih =>
    intro a
    simp only [List.foldl_cons, ih, List.mem_cons, exists_eq_or_imp]
    constructor
    · rintro (h | h)
      · rcases Int.le_total a z with c | c
        · rw [Int.min_eq_left c] at h; exact .inl h
        · rw [Int.min_eq_right c] at h; exact .inr (.inl h)
      · exact .inr (.inr h)
    · rintro (h | h | h)
      · left; omega
      · left; omega
      · exact .inr h
theorem minOf_neg (l : List Int) : Lib.minOf l < 0 ↔ ∃ z ∈ l, z < 0 := by
  unfold Lib.minOf
  rw [foldl_min]
  constructor
  · rintro (h | h)
    · cases l with
      | nil => simp at h
      | cons z r => exact ⟨z, List.mem_cons_self, by simpa using h⟩
    · exact h
  · exact .inr
/-- What Product answers. -/
def pNeg (l : List Int) : Prop := ∃ z ∈ l, z < 0
end Go.Proofs.YtgdkbiidjaplhaaDoor
