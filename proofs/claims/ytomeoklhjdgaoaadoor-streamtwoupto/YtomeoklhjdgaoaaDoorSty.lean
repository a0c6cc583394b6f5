/-
  Rows of ints as they are handed in; one more behind.
-/
import Derived.Test.YtomeoklhjdgaoaaDoorStq
namespace Go.Proofs.YtomeoklhjdgaoaaDoor
open Go.ChangeShapes Go.WideShapes Go.ChangeAt Go.RowKit Go.Lib Go.Maps

def I64 (x : Int) : Prop := -9223372036854775808 ≤ x ∧ x ≤ 9223372036854775807
abbrev gI (L : List Int) (i : Nat) : Int := L.getD i 0
/-- A row of ints in a block that p allows. -/
def InR (p : Nat → Prop) (W : World) (v : Value) (L : List Int) : Prop :=
  ∃ ao cap, v = .slice ao L.length cap ∧ (ao = none → cap = 0) ∧ L.length ≤ cap ∧ (∀ i, i < L.length → I64 (gI L i)) ∧ L.length ≤ 1048577 ∧
    (0 < L.length → ∃ b off, ao = some ⟨b, off, none⟩ ∧ p b ∧ b < W.heap.size ∧ ∀ i, i < L.length → W.cell? ⟨b, off + i, none⟩ = some (zV (gI L i)))
theorem InR.fresh {p : Nat → Prop} {W W' : World} {v : Value} {L : List Int} (h : InR p W v L) (hk : Fresh W W') : InR p W' v L := by
  obtain ⟨ao, cap, h1, h2, h3, h4, h6, h5⟩ := h
  refine ⟨ao, cap, h1, h2, h3, h4, h6, fun h0 => ?_⟩
  obtain ⟨b, off, ha, hp, hb, hc⟩ := h5 h0
  exact ⟨b, off, ha, hp, Nat.lt_of_lt_of_le hb hk.size, fun i hi => (hk.cell (p := ⟨b, off + i, none⟩) hb (fun e => e)).trans (hc i hi)⟩
theorem InR.cells {p : Nat → Prop} {W : World} {ao : Option Addr} {n cap : Nat} {L : List Int} (h : InR p W (.slice ao n cap) L) : L.length = n ∧ n ≤ cap ∧ (0 < n → ∃ b off, ao = some ⟨b, off, none⟩ ∧ p b ∧ b < W.heap.size ∧ ∀ i, i < n → W.cell? ⟨b, off + i, none⟩ = some (zV (gI L i))) := by
  obtain ⟨ao', cap', hv, h2, h3, h4, h6, h5⟩ := h
  injection hv with e1 e2 e3
  subst e1 e2 e3
  exact ⟨rfl, h3, h5⟩
theorem inr_of_own {B : Nat} {e : TypeId} {w : World} {v : Value} {L : List Int} (h : w.ownsRow B e 1 v L.length (L.map zV)) (hl : ∀ i, i < L.length → I64 (gI L i)) (h16 : L.length ≤ 1048577) : InR (fun b => B ≤ b ∧ b < w.heap.size) w v L := by
  rcases h.2 with ⟨rfl, h0⟩ | ⟨g, cap, cur, rfl, hb, hg, hnc, _⟩
  · exact ⟨none, 0, by rw [h0], fun _ => rfl, by omega, hl, h16, fun h1 => by omega⟩
  · refine ⟨_, cap, rfl, fun e => (by cases e), hnc, hl, h16, fun _ => ⟨g, 0, rfl, ⟨hb, lt_of_heap hg⟩, lt_of_heap hg, fun i hi2 => ?_⟩⟩
    rw [Nat.zero_add, h.cellAt i (by omega), List.getElem?_map, gI, List.getD_eq_getElem?_getD, List.getElem?_eq_getElem hi2]
    rfl
theorem intInfo : (Tryd.prog.info? 3).map (fun i => (i.zero, i.size, i.bytes)) = some (some (.int .i64 0), 1, 8) := by kernel_rfl
/-- append([]int{}, ints...). -/
theorem twinI (ty : TypeId) (W : World) (B : Nat) (v0 : Value) (hown : W.ownsRow B 3 1 v0 0 []) (hB : B ≤ W.heap.size) (rv : Value) (L : List Int) (p : Nat → Prop) (hr : InR p W rv L) :
    ∃ tv W', (Builtin.append_ #[47, 47] ty #[v0, rv]).run Tryd.prog W = .ok tv W' ∧ W'.ownsRow B 3 1 tv L.length (L.map zV) ∧ W.grownBy W' v0.ownBlock := by
  obtain ⟨i0, hi, hz0, hz1, hz2⟩ := info_parts intInfo
  obtain ⟨ao, cap, rfl, hn, _, _, h16, hcell⟩ := hr
  cases ao with
  | none =>
    have e : L = [] := by
      rcases L with _ | ⟨z, r⟩
      · rfl
      · obtain ⟨b, off, h, _⟩ := hcell (by simp)
        cases h
    subst e
    rw [hn rfl]
    exact ⟨v0, W, run_append_owned_none (P := Tryd.prog) W B _ _ _ i0 1 Tryd.underlying47 hi v0 _ _ hown, by simpa using hown, ⟨rfl, rfl, rfl, Nat.le_refl _, fun _ _ _ => rfl⟩⟩
  | some a =>
    obtain ⟨v', w', h1, h2, h3, _⟩ := run_append_own (P := Tryd.prog) W B 47 ty 3 i0 _ 1 8 Tryd.underlying47 hi hz0 hz1 hz2 rfl (by omega) v0 _ _ hown a L.length cap (L.map zV) (by simp)
      (fun j u hj => by
        have hj' : j < L.length := by have := (List.getElem?_eq_some_iff.1 hj).1; simpa using this
        obtain ⟨b, off, h, _, _, hc⟩ := hcell (by omega)
        simp only [Option.some.injEq] at h
        subst h
        rw [List.getElem?_map, List.getElem?_eq_getElem hj'] at hj
        simp only [Option.map_some, Option.some.injEq] at hj
        have := hc j hj'
        rw [gI, List.getD_eq_getElem?_getD, List.getElem?_eq_getElem hj'] at this
        rw [← hj, Addr.add_lit]
        exact this)
      (fun u hu => by obtain ⟨_, _, rfl⟩ := List.mem_map.1 hu; rfl) (by unfold maxLen; omega) (by omega) hB
    rw [Nat.zero_add, List.nil_append] at h2
    exact ⟨v', w', h1, h2, h3⟩
/-- One int behind a row of one's own. -/
theorem pushI (X : World) (B : Nat) (v : Value) (L : List Int) (z : Int) (hown : X.ownsRow B 3 1 v L.length (L.map zV)) (hj : L.length ≤ 1048577) (hB : B ≤ X.heap.size) :
    ∃ v' X', (Builtin.append_ #[47, 47] 47 #[v, .slice (some ⟨X.heap.size, 0, none⟩) 1 1]).run Tryd.prog (X.alloc (.cells #[zV z] 3)) = .ok v' X' ∧
      X'.ownsRow B 3 1 v' (L ++ [z]).length ((L ++ [z]).map zV) ∧ Kept (fun b => v.ownBlock = some b) X X' := by
  obtain ⟨i0, hi0, hz0, hz1, hz2⟩ := info_parts intInfo
  have hY : (X.alloc (.cells #[zV z] 3)).ownsRow B 3 1 v L.length (L.map zV) := owns_kept hown ((Kept.refl (fun _ => False) X).alloc _) (fun _ _ e => e)
  obtain ⟨v', w', hrun, ho, hg, _, hb⟩ := run_append_own_at (P := Tryd.prog) (X.alloc (.cells #[zV z] 3)) B 47 47 3 i0 _ 1 8 Tryd.underlying47 hi0 hz0 hz1 hz2 rfl (by omega) _ _ _ hY ⟨X.heap.size, 0, none⟩ 1 1 [zV z] rfl
    (fun q u hq => by
      rw [Addr.add_lit, Nat.zero_add, World.cell?_alloc_new, ← Array.getElem?_toList]
      exact hq) (fun u hu => by simp at hu; rcases hu with rfl; rfl) (by unfold maxLen; omega) (by omega) (by simp; omega)
  exact ⟨v', w', hrun, by rw [List.length_append, List.map_append]; exact ho, ((Kept.refl (fun b => v.ownBlock = some b) X).alloc _).grown hg (fun q _ e => e)⟩
theorem Tryd.cI : Tryd.prog.cellsOf 3 = 1 := by kernel_rfl
set_option maxRecDepth 100000 in
/-- A row of ints that is handed in. -/
theorem inr_of {H : Type} {enc : TypeId × Value → H} {W : World} {r : Reach} {b0 : Nat} {v : Value} {d : DataW H} {p : List MemPlace} (hv : Value.okWide Tryd.prog W r b0 47 v) (h : DataW.Trod enc Tryd.prog W 0 (fun _ => true) true 47 v d p) (hb : Rows.uptoBulk d ≤ 1048576) :
    ∃ L : List Int, InR (fun b => b < W.heap.size) W v L ∧ L.length ≤ 1048576 := by
  obtain ⟨ao, ln, cap, rfl⟩ := okWide_slice Tryd.underlying47 hv
  obtain ⟨fuel, hf⟩ := h
  rcases Go.Deep.open_slice Tryd.underlying47 hf with ⟨hcs, hx⟩ | ⟨a, len, cap', m, n, D, Pl, hcs, _, hl, hmx, hm, hx, hel⟩
  · exact ⟨[], ⟨none, 0, by simpa [Value.cells] using hcs, fun _ => rfl, Nat.le_refl _, fun i hi => absurd hi (Nat.not_lt_zero _), by simp, fun e => absurd e (Nat.lt_irrefl _)⟩, by simp⟩
  · simp only [if_true] at hm
    subst hm
    rw [Tryd.cI] at hel
    have hlen : len ≤ 1048576 := by
      have e' : d = .slice ((List.range len).map D) _ := (Prod.ext_iff.1 hx).1
      rw [e'] at hb
      simp only [Rows.uptoBulk] at hb
      have := bulk_length ((List.range len).map D)
      rw [List.length_map, List.length_range] at this
      omega
    have build : ∀ k, k ≤ len → ∃ l : List Int, l.length = k ∧ (∀ s ∈ l, I64 s) ∧ ∀ i (hi : i < l.length), W.cells? 0 (a.add (i * 1)) 1 = some [zV l[i]] := by
      intro k
      induction k with
      | zero => intro _; exact ⟨[], rfl, fun o ho => by simp at ho, fun i hi => by simp at hi⟩
      | succ k ih =>
        intro hk
        obtain ⟨l, hlk, hwf, hcl⟩ := ih (by omega)
        obtain ⟨cs', hc, ht⟩ := hel k (by omega)
        obtain ⟨s, e2, _, hss⟩ := DataW.trod_int Tryd.underlying3 ht
        refine ⟨l ++ [s], by simp [hlk], fun p hp => ?_, fun i hi => ?_⟩
        · rcases List.mem_append.1 hp with hp | hp
          · exact hwf p hp
          · rw [List.mem_singleton.1 hp]
            exact i64_of hss
        · by_cases hik : i < l.length
          · rw [List.getElem_append_left hik]
            exact hcl i hik
          · have hie : i = l.length := by simp at hi; omega
            subst hie
            rw [List.getElem_concat_length rfl]
            rw [hlk, hc, e2]
    obtain ⟨l, hll, hwf, hcl⟩ := build len (Nat.le_refl _)
    have hgm : ∀ i (hi : i < l.length), gI l i = l[i] := fun i hi => by rw [gI, List.getD_eq_getElem?_getD, List.getElem?_eq_getElem hi]; rfl
    refine ⟨l, ⟨some a, m, by rw [hll]; simpa [Value.cells] using hcs, fun e => (by cases e), by omega, fun i hi => ?_, by omega, fun hpos => ?_⟩, by omega⟩
    · rw [hgm i hi]; exact hwf _ (List.getElem_mem hi)
    · obtain ⟨b, off, spot⟩ := a
      have h0 := (World.cells?_some (hcl 0 hpos)).2.2 0 (by omega)
      have hspot : spot = none := by simpa [Addr.add] using World.cell?_spot h0
      subst hspot
      have hb0 := World.block_lt_of_cell? W _ h0
      refine ⟨b, off, rfl, by simpa [Addr.add] using hb0, by simpa [Addr.add] using hb0, fun i hi => ?_⟩
      have hc := (World.cells?_some (hcl i hi)).2.2
      have c0 := hc 0 (by omega)
      rw [hgm i hi]
      simpa [Addr.add_lit] using c0
end Go.Proofs.YtomeoklhjdgaoaaDoor
