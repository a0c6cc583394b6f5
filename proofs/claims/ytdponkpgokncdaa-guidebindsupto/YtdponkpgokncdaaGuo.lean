/-
  A guide handed in: rows of truth values, rows of edges; a machine that is begun.
-/
import Derived.Test.YtdponkpgokncdaaGud
import Derived.Test.YtdponkpgokncdaaGuf
import Derived.Test.YtdponkpgokncdaaGun
namespace Go.Proofs.Ytdponkpgokncdaa
open Go.RowKit Go.Lib Go.Maps

/-- A row of truth values that is handed in. -/
def RbL (p : Nat → Prop) (W : World) (v : Value) (l : List Bool) : Prop :=
  ∃ ao cap, v = .slice ao l.length cap ∧ (ao = none → cap = 0) ∧ l.length ≤ cap ∧ l.length ≤ 140737488351232 ∧
    (0 < l.length → ∃ b off, ao = some ⟨b, off, none⟩ ∧ p b ∧ b < W.heap.size ∧ ∀ i, i < l.length → W.cell? ⟨b, off + i, none⟩ = some (.bool (l.getD i false)))
/-- A row of edges that is handed in. -/
def EdR (p : Nat → Prop) (W : World) (v : Value) (E : List Ed) : Prop :=
  ∃ ao cap, v = .slice ao E.length cap ∧ (ao = none → cap = 0) ∧ E.length ≤ cap ∧ E.length * 24 ≤ 140737488351232 ∧ (∀ i, i < E.length → EdOk (gE E i)) ∧
    (0 < E.length → ∃ b off, ao = some ⟨b, off, none⟩ ∧ p b ∧ b < W.heap.size ∧ ∀ i, i < E.length → W.cell? ⟨b, off + i * 4, none⟩ = some (zV (gE E i).f) ∧ W.cell? ⟨b, off + i * 4 + 1, none⟩ = some (.int .u8 ((gE E i).lo : Int)) ∧ W.cell? ⟨b, off + i * 4 + 2, none⟩ = some (.int .u8 ((gE E i).hi : Int)) ∧ W.cell? ⟨b, off + i * 4 + 3, none⟩ = some (zV (gE E i).t))
theorem RbL.kept {p S : Nat → Prop} {W X : World} {v : Value} {l : List Bool} (h : RbL p W v l) (hk : Kept S W X) (hn : ∀ b, p b → b < W.heap.size → ¬ S b) : RbL p X v l := by
  obtain ⟨ao, cap, h1, h2, h3, h4, h5⟩ := h
  refine ⟨ao, cap, h1, h2, h3, h4, fun h0 => ?_⟩
  obtain ⟨b, off, ha, hp, hb, hc⟩ := h5 h0
  exact ⟨b, off, ha, hp, Nat.lt_of_lt_of_le hb hk.size, fun i hi => (hk.cell (p := ⟨b, off + i, none⟩) hb (hn b hp hb)).trans (hc i hi)⟩
theorem EdR.kept {p S : Nat → Prop} {W X : World} {v : Value} {E : List Ed} (h : EdR p W v E) (hk : Kept S W X) (hn : ∀ b, p b → b < W.heap.size → ¬ S b) : EdR p X v E := by
  obtain ⟨ao, cap, h1, h2, h3, h4, h6, h5⟩ := h
  refine ⟨ao, cap, h1, h2, h3, h4, h6, fun h0 => ?_⟩
  obtain ⟨b, off, ha, hp, hb, hc⟩ := h5 h0
  refine ⟨b, off, ha, hp, Nat.lt_of_lt_of_le hb hk.size, fun i hi => ?_⟩
  obtain ⟨c0, c1, c2, c3⟩ := hc i hi
  exact ⟨(hk.cell (p := ⟨b, off + i * 4, none⟩) hb (hn b hp hb)).trans c0, (hk.cell (p := ⟨b, off + i * 4 + 1, none⟩) hb (hn b hp hb)).trans c1, (hk.cell (p := ⟨b, off + i * 4 + 2, none⟩) hb (hn b hp hb)).trans c2, (hk.cell (p := ⟨b, off + i * 4 + 3, none⟩) hb (hn b hp hb)).trans c3⟩
theorem RbL.fresh {p : Nat → Prop} {W X : World} {v : Value} {l : List Bool} (h : RbL p W v l) (hk : Fresh W X) : RbL p X v l := h.kept hk (fun _ _ _ e => e)
theorem EdR.fresh {p : Nat → Prop} {W X : World} {v : Value} {E : List Ed} (h : EdR p W v E) (hk : Fresh W X) : EdR p X v E := h.kept hk (fun _ _ _ e => e)
theorem RbL.up {p : Nat → Prop} {W X : World} {v : Value} {l : List Bool} (h : RbL p W v l) (hk : Kept (fun q => W.heap.size ≤ q) W X) : RbL p X v l := h.kept hk (fun b _ hb e => by have e' : W.heap.size ≤ b := e; omega)
theorem EdR.up {p : Nat → Prop} {W X : World} {v : Value} {E : List Ed} (h : EdR p W v E) (hk : Kept (fun q => W.heap.size ≤ q) W X) : EdR p X v E := h.kept hk (fun b _ hb e => by have e' : W.heap.size ≤ b := e; omega)
theorem RbL.shape {p : Nat → Prop} {W : World} {v : Value} {l : List Bool} (h : RbL p W v l) : ∃ ao cap, v = .slice ao l.length cap := by obtain ⟨ao, cap, h1, _⟩ := h; exact ⟨ao, cap, h1⟩
theorem EdR.shape {p : Nat → Prop} {W : World} {v : Value} {E : List Ed} (h : EdR p W v E) : ∃ ao cap, v = .slice ao E.length cap := by obtain ⟨ao, cap, h1, _⟩ := h; exact ⟨ao, cap, h1⟩
theorem RbL.cells {p : Nat → Prop} {W : World} {ao : Option Addr} {n cap : Nat} {l : List Bool} (h : RbL p W (.slice ao n cap) l) (h0 : 0 < n) : ∃ b off, ao = some ⟨b, off, none⟩ ∧ p b ∧ b < W.heap.size ∧ ∀ i, i < n → W.cell? ⟨b, off + i, none⟩ = some (.bool (l.getD i false)) := by
  obtain ⟨ao', cap', hv, _, _, _, h5⟩ := h
  injection hv with e1 e2 e3
  subst e1 e2
  exact h5 h0
theorem EdR.cells {p : Nat → Prop} {W : World} {ao : Option Addr} {n cap : Nat} {E : List Ed} (h : EdR p W (.slice ao n cap) E) (h0 : 0 < n) : ∃ b off, ao = some ⟨b, off, none⟩ ∧ p b ∧ b < W.heap.size ∧ ∀ i, i < n → W.cell? ⟨b, off + i * 4, none⟩ = some (zV (gE E i).f) ∧ W.cell? ⟨b, off + i * 4 + 1, none⟩ = some (.int .u8 ((gE E i).lo : Int)) ∧ W.cell? ⟨b, off + i * 4 + 2, none⟩ = some (.int .u8 ((gE E i).hi : Int)) ∧ W.cell? ⟨b, off + i * 4 + 3, none⟩ = some (zV (gE E i).t) := by
  obtain ⟨ao', cap', hv, _, _, _, _, h5⟩ := h
  injection hv with e1 e2 e3
  subst e1 e2
  exact h5 h0
theorem RbL.mono {p q : Nat → Prop} {W : World} {v : Value} {l : List Bool} (h : RbL p W v l) (hpq : ∀ b, p b → q b) : RbL q W v l := by
  obtain ⟨ao, cap, h1, h2, h3, h4, h5⟩ := h
  exact ⟨ao, cap, h1, h2, h3, h4, fun h0 => let ⟨b, off, ha, hp, hb, hc⟩ := h5 h0; ⟨b, off, ha, hpq b hp, hb, hc⟩⟩
theorem EdR.mono {p q : Nat → Prop} {W : World} {v : Value} {E : List Ed} (h : EdR p W v E) (hpq : ∀ b, p b → q b) : EdR q W v E := by
  obtain ⟨ao, cap, h1, h2, h3, h4, h6, h5⟩ := h
  exact ⟨ao, cap, h1, h2, h3, h4, h6, fun h0 => let ⟨b, off, ha, hp, hb, hc⟩ := h5 h0; ⟨b, off, ha, hpq b hp, hb, hc⟩⟩
theorem EdR.ok {p : Nat → Prop} {W : World} {v : Value} {E : List Ed} (h : EdR p W v E) {i : Nat} (hi : i < E.length) : EdOk (gE E i) := by obtain ⟨_, _, _, _, _, _, h6, _⟩ := h; exact h6 i hi
/-- A machine of no states. -/
theorem ma_new (B : Nat) (W : World) (hB : B ≤ W.heap.size) : MaAt B (W.alloc (.cells #[.slice none 0 0, .slice none 0 0] 90)) W.heap.size (.slice none 0 0) (.slice none 0 0) [] 0 (fun _ _ => -1) :=
  ⟨heap_alloc_new _ _, ⟨rfl, .inl ⟨rfl, rfl⟩⟩, ⟨rfl, .inl ⟨rfl, rfl⟩⟩, hB, fun _ _ => .inl rfl, by omega⟩
theorem MaAt.down {B B' : Nat} {W : World} {b : Nat} {av sv : Value} {A : List Bool} {n : Nat} {f : Nat → Nat → Int} (h : MaAt B W b av sv A n f) (hb : B' ≤ B) : MaAt B' W b av sv A n f := ⟨h.hb, own_down h.ac hb, own_down h.st hb, Nat.le_trans hb h.le, h.rg, h.sm⟩
theorem take_snocB {A : List Bool} {i : Nat} (h : i < A.length) : A.take (i + 1) = A.take i ++ [A.getD i false] := by
  rw [List.take_succ_eq_append_getElem h, List.getD_eq_getElem?_getD, List.getElem?_eq_getElem h]
  rfl
theorem bdF_empty {E : List Ed} (h : bdF 0 E E.length = none) : E.length = 0 := by
  rcases Nat.eq_zero_or_pos E.length with e | e
  · exact e
  · have h1 := okB_fit (bdF_none.1 h 0 e)
    obtain ⟨h2, h3, _⟩ := fitB_iff.1 h1
    omega
def e0 : Ed := ⟨0, 0, 255, 0⟩
theorem ly0 : lyB (fun _ _ => -1) 1 e0 = true := by decide +kernel
theorem mF_empty {A : List Bool} {E : List Ed} (h : A.length = 0) : nA A = [true] ∧ mF A E = lyF (fun _ _ => -1) e0 := by
  have e : A = [] := List.eq_nil_of_length_eq_zero h
  subst e
  exact ⟨rfl, rfl⟩
theorem mF_some {A : List Bool} {E : List Ed} (h : 0 < A.length) : nA A = A ∧ mF A E = stF E E.length := by
  have e : A.isEmpty = false := by
    cases A with
    | nil => simp at h
    | cons _ _ => rfl
  unfold nA mF nE
  rw [e]
  exact ⟨rfl, rfl⟩
theorem chE_many {A : List Bool} {E : List Ed} (h : 64 < A.length) : chE A E = 150 ∧ chP A E = 64 := by
  unfold chE chP
  rw [if_pos h, if_pos h]
  exact ⟨rfl, rfl⟩
theorem chE_edges {A : List Bool} {E : List Ed} (h : ¬ 64 < A.length) (h2 : 1024 < E.length) : chE A E = 151 ∧ chP A E = 1024 := by
  unfold chE chP
  rw [if_neg h, if_neg h, if_pos h2, if_pos h2]
  exact ⟨rfl, rfl⟩
theorem chE_bad {A : List Bool} {E : List Ed} (h : ¬ 64 < A.length) (h2 : ¬ 1024 < E.length) {i : Nat} (h3 : bdF A.length E E.length = some i) : chE A E = 151 ∧ chP A E = i := by
  unfold chE chP
  rw [if_neg h, if_neg h, if_neg h2, if_neg h2, h3]
  exact ⟨rfl, rfl⟩
theorem chE_live {A : List Bool} {E : List Ed} (h : ¬ 64 < A.length) (h2 : ¬ 1024 < E.length) (h3 : bdF A.length E E.length = none) : chE A E = (if (lvL (mF A E) (nA A)).getD 0 false then 0 else 152) ∧ chP A E = 0 := by
  unfold chE chP
  rw [if_neg h, if_neg h, if_neg h2, if_neg h2, h3]
  exact ⟨rfl, rfl⟩
end Go.Proofs.Ytdponkpgokncdaa
