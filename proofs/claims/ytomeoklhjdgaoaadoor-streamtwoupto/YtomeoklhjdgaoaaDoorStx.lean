/-
  Texts as they are handed in and kept: rows of strings.
-/
import Derived.Test.YtomeoklhjdgaoaaDoorSta
import Derived.ProofKit
import Derived.OpenShut
import Derived.Deep.Slices
import Derived.SizedLaws
import Derived.Maps.AppendAt
import Derived.Maps.OwnOps
import Derived.ArgAppend
namespace Go.Proofs.YtomeoklhjdgaoaaDoor
open Go.ChangeShapes Go.WideShapes Go.ChangeAt Go.RowKit Go.Lib Go.Maps

/-- A row of texts in a block that p allows. -/
def TxR (p : Nat → Prop) (W : World) (v : Value) (T : List (List UInt8)) : Prop :=
  ∃ ao cap, v = .slice ao T.length cap ∧ (ao = none → cap = 0) ∧ T.length ≤ cap ∧ (∀ i, i < T.length → (tX T i).length ≤ 1048576) ∧ T.length ≤ 1048576 ∧
    (0 < T.length → ∃ b off, ao = some ⟨b, off, none⟩ ∧ p b ∧ b < W.heap.size ∧ ∀ i, i < T.length → W.cell? ⟨b, off + i, none⟩ = some (sV (tX T i)))
theorem TxR.kept {p : Nat → Prop} {S : Nat → Prop} {W W' : World} {v : Value} {T : List (List UInt8)} (h : TxR p W v T) (hk : Kept S W W') (hn : ∀ b, p b → ¬ S b) : TxR p W' v T := by
  obtain ⟨ao, cap, h1, h2, h3, h4, h6, h5⟩ := h
  refine ⟨ao, cap, h1, h2, h3, h4, h6, fun h0 => ?_⟩
  obtain ⟨b, off, ha, hp, hb, hc⟩ := h5 h0
  exact ⟨b, off, ha, hp, Nat.lt_of_lt_of_le hb hk.size, fun i hi => (hk.cell (p := ⟨b, off + i, none⟩) hb (hn b hp)).trans (hc i hi)⟩
theorem TxR.fresh {p : Nat → Prop} {W W' : World} {v : Value} {T : List (List UInt8)} (h : TxR p W v T) (hk : Fresh W W') : TxR p W' v T := h.kept hk (fun _ _ e => e)
theorem TxR.mono {p q : Nat → Prop} {W : World} {v : Value} {T : List (List UInt8)} (h : TxR p W v T) (hpq : ∀ b, p b → q b) : TxR q W v T := by
  obtain ⟨ao, cap, h1, h2, h3, h4, h6, h5⟩ := h
  exact ⟨ao, cap, h1, h2, h3, h4, h6, fun h0 => let ⟨b, off, ha, hp, hb, hc⟩ := h5 h0; ⟨b, off, ha, hpq b hp, hb, hc⟩⟩
theorem TxR.cells {p : Nat → Prop} {W : World} {ao : Option Addr} {n cap : Nat} {T : List (List UInt8)} (h : TxR p W (.slice ao n cap) T) : T.length = n ∧ n ≤ cap ∧ (0 < n → ∃ b off, ao = some ⟨b, off, none⟩ ∧ p b ∧ b < W.heap.size ∧ ∀ i, i < n → W.cell? ⟨b, off + i, none⟩ = some (sV (tX T i))) := by
  obtain ⟨ao', cap', hv, h2, h3, h4, h6, h5⟩ := h
  injection hv with e1 e2 e3
  subst e1 e2 e3
  exact ⟨rfl, h3, h5⟩
theorem TxR.shape {p : Nat → Prop} {W : World} {v : Value} {T : List (List UInt8)} (h : TxR p W v T) : ∃ ao cap, v = .slice ao T.length cap := by obtain ⟨ao, cap, h1, _⟩ := h; exact ⟨ao, cap, h1⟩
theorem TxR.len {p : Nat → Prop} {W : World} {v : Value} {T : List (List UInt8)} (h : TxR p W v T) : T.length ≤ 1048576 := by obtain ⟨ao, cap, h1, h2, h3, h4, h5, _⟩ := h; exact h5
theorem TxR.each {p : Nat → Prop} {W : World} {v : Value} {T : List (List UInt8)} (h : TxR p W v T) : ∀ i, i < T.length → (tX T i).length ≤ 1048576 := by obtain ⟨ao, cap, h1, h2, h3, h4, h5, _⟩ := h; exact h4
theorem txr_of_own {B : Nat} {e : TypeId} {w : World} {v : Value} {T : List (List UInt8)} (h : w.ownsRow B e 1 v T.length (T.map sV)) (hl : ∀ i, i < T.length → (tX T i).length ≤ 1048576) (h16 : T.length ≤ 1048576) : TxR (fun b => B ≤ b ∧ b < w.heap.size) w v T := by
  rcases h.2 with ⟨rfl, h0⟩ | ⟨g, cap, cur, rfl, hb, hg, hnc, _⟩
  · exact ⟨none, 0, by rw [h0], fun _ => rfl, by omega, hl, h16, fun h1 => by omega⟩
  · refine ⟨_, cap, rfl, fun e => (by cases e), hnc, hl, h16, fun _ => ⟨g, 0, rfl, ⟨hb, lt_of_heap hg⟩, lt_of_heap hg, fun i hi2 => ?_⟩⟩
    rw [Nat.zero_add, h.cellAt i (by omega), List.getElem?_map, tX, List.getD_eq_getElem?_getD, List.getElem?_eq_getElem hi2]
    rfl
theorem strInfo : (Tryd.prog.info? 9).map (fun i => (i.zero, i.size, i.bytes)) = some (some (.string ⟨#[]⟩), 1, 16) := by kernel_rfl
/-- append([]string{}, texts...). -/
theorem twinT (ty : TypeId) (W : World) (B : Nat) (v0 : Value) (hown : W.ownsRow B 9 1 v0 0 []) (hB : B ≤ W.heap.size) (rv : Value) (T : List (List UInt8)) (p : Nat → Prop) (hr : TxR p W rv T) :
    ∃ tv W', (Builtin.append_ #[26, 26] ty #[v0, rv]).run Tryd.prog W = .ok tv W' ∧ W'.ownsRow B 9 1 tv T.length (T.map sV) ∧ W.grownBy W' v0.ownBlock := by
  obtain ⟨i0, hi, hz0, hz1, hz2⟩ := info_parts strInfo
  obtain ⟨ao, cap, rfl, hn, _, _, h16, hcell⟩ := hr
  cases ao with
  | none =>
    have e : T = [] := by
      rcases T with _ | ⟨z, r⟩
      · rfl
      · obtain ⟨b, off, h, _⟩ := hcell (by simp)
        cases h
    subst e
    rw [hn rfl]
    exact ⟨v0, W, run_append_owned_none (P := Tryd.prog) W B _ _ _ i0 1 Tryd.underlying26 hi v0 _ _ hown, by simpa using hown, ⟨rfl, rfl, rfl, Nat.le_refl _, fun _ _ _ => rfl⟩⟩
  | some a =>
    obtain ⟨v', w', h1, h2, h3, _⟩ := run_append_own (P := Tryd.prog) W B 26 ty 9 i0 _ 1 16 Tryd.underlying26 hi hz0 hz1 hz2 rfl (by omega) v0 _ _ hown a T.length cap (T.map sV) (by simp)
      (fun j u hj => by
        have hj' : j < T.length := by have := (List.getElem?_eq_some_iff.1 hj).1; simpa using this
        obtain ⟨b, off, h, _, _, hc⟩ := hcell (by omega)
        simp only [Option.some.injEq] at h
        subst h
        rw [List.getElem?_map, List.getElem?_eq_getElem hj'] at hj
        simp only [Option.map_some, Option.some.injEq] at hj
        have := hc j hj'
        rw [tX, List.getD_eq_getElem?_getD, List.getElem?_eq_getElem hj'] at this
        rw [← hj, Addr.add_lit]
        exact this)
      (fun u hu => by obtain ⟨_, _, rfl⟩ := List.mem_map.1 hu; rfl) (by unfold maxLen; omega) (by omega) hB
    rw [Nat.zero_add, List.nil_append] at h2
    exact ⟨v', w', h1, h2, h3⟩
theorem Tryd.cS : Tryd.prog.cellsOf 9 = 1 := by kernel_rfl
/-- A row of texts that is handed in. -/
theorem txr_at {H : Type} {enc : TypeId × Value → H} {W : World} {fuel : Nat} {v : Value} {x : DataW H × List MemPlace} (h : DataW.trod enc Tryd.prog W 0 (fun _ => true) true fuel 26 [v] = some x) (hsz : ∀ es sp, x.1 = .slice es sp → es.length ≤ 1048576) (hst : ∀ es sp bs, x.1 = .slice es sp → .lit (.string bs) ∈ es → bs.length ≤ 1048576) :
    ∃ T : List (List UInt8), TxR (fun b => b < W.heap.size) W v T := by
  rcases Go.Deep.open_slice Tryd.underlying26 h with ⟨hcs, hx⟩ | ⟨a, len, cap, m, n, D, Pl, hcs, _, hl, hmx, hm, hx, hel⟩
  · exact ⟨[], none, 0, by simpa using hcs, fun _ => rfl, Nat.le_refl _, fun i hi => absurd hi (Nat.not_lt_zero _), by simp, fun e => absurd e (Nat.lt_irrefl _)⟩
  · simp only [if_true] at hm
    subst hm
    rw [Tryd.cS] at hel
    have hlen : len ≤ 1048576 := by
      have := hsz _ _ (by rw [hx])
      rw [List.length_map, List.length_range] at this
      exact this
    have build : ∀ k, k ≤ len → ∃ l : List (List UInt8), l.length = k ∧ (∀ s ∈ l, s.length ≤ 1048576) ∧ ∀ i (hi : i < l.length), W.cells? 0 (a.add (i * 1)) 1 = some [sV l[i]] := by
      intro k
      induction k with
      | zero => intro _; exact ⟨[], rfl, fun o ho => by simp at ho, fun i hi => by simp at hi⟩
      | succ k ih =>
        intro hk
        obtain ⟨l, hlk, hwf, hcl⟩ := ih (by omega)
        obtain ⟨cs', hc, ht⟩ := hel k (by omega)
        obtain ⟨s, e2, e3, hss⟩ := DataW.trod_string Tryd.underlying9 ht
        have hsb : s.data.toList.length ≤ 1048576 := by
          refine hst _ _ s.data.toList (by rw [hx]) ?_
          have : D k = .lit (.string s.data.toList) := by first | exact (Prod.ext_iff.1 e3).1 | exact e3.1 | exact e3
          rw [← this]
          exact List.mem_map.2 ⟨k, List.mem_range.2 (by omega), rfl⟩
        refine ⟨l ++ [s.data.toList], by simp [hlk], fun p hp => ?_, fun i hi => ?_⟩
        · rcases List.mem_append.1 hp with hp | hp
          · exact hwf p hp
          · rw [List.mem_singleton.1 hp]
            exact hsb
        · by_cases hik : i < l.length
          · rw [List.getElem_append_left hik]
            exact hcl i hik
          · have hie : i = l.length := by simp at hi; omega
            subst hie
            rw [List.getElem_concat_length rfl]
            rw [hlk, hc, e2]
    obtain ⟨l, hll, hwf, hcl⟩ := build len (Nat.le_refl _)
    have hgm : ∀ i (hi : i < l.length), tX l i = l[i] := fun i hi => by rw [tX, List.getD_eq_getElem?_getD, List.getElem?_eq_getElem hi]; rfl
    refine ⟨l, some a, m, by rw [hll]; simpa using hcs, fun e => (by cases e), by omega, fun i hi => ?_, by omega, fun hpos => ?_⟩
    · rw [hgm i hi]; exact hwf _ (List.getElem_mem hi)
    · obtain ⟨b, off, spot⟩ := a
      have h0 := (World.cells?_some (hcl 0 hpos)).2.2 0 (by omega)
      have hspot : spot = none := by simpa [Addr.add] using World.cell?_spot h0
      subst hspot
      have hb0 := World.block_lt_of_cell? W _ h0
      refine ⟨b, off, rfl, by simpa [Addr.add] using hb0, by simpa [Addr.add] using hb0, fun i hi => ?_⟩
      have hc := (World.cells?_some (hcl i hi)).2.2
      have c0 := hc 0 (by omega)
      rw [hgm i hi]
      simpa [Addr.add_lit] using c0
end Go.Proofs.YtomeoklhjdgaoaaDoor
