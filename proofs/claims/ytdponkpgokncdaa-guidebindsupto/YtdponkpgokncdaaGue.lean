/-
  An edge is laid: numbers, and what a store makes of a machine.
-/
import Derived.Test.YtdponkpgokncdaaGuc
namespace Go.Proofs.Ytdponkpgokncdaa
open Go.RowKit Go.Lib Go.Maps

/-- One step more. -/
def upS (f : Nat → Nat → Int) (s c : Nat) (x : Int) : Nat → Nat → Int := fun s' c' => if s' = s ∧ c' = c then x else f s' c'
theorem flS_set (f : Nat → Nat → Int) (n s c : Nat) (x : Int) (_hs : s < n) (hc : c < 256) : (flS f n).set (s * 256 + c) (.int .i16 x) = flS (upS f s c x) n := by
  apply List.ext_getElem?
  intro i
  rcases Nat.lt_or_ge i (n * 256) with h | h
  · have e1 := flS_get f n (i / 256) (i % 256) (by omega) (by omega)
    have e2 := flS_get (upS f s c x) n (i / 256) (i % 256) (by omega) (by omega)
    rw [show i / 256 * 256 + i % 256 = i by omega] at e1 e2
    rw [e2]
    by_cases e : i = s * 256 + c
    · subst e
      rw [List.getElem?_set_self (by rw [flS_len]; exact h)]
      unfold upS
      rw [if_pos ⟨by omega, by omega⟩]
    · rw [List.getElem?_set_ne (fun e' => e e'.symm), e1]
      unfold upS
      rw [if_neg (fun e' => e (by omega))]
  · rw [List.getElem?_eq_none (by rw [List.length_set, flS_len]; exact h), List.getElem?_eq_none (by rw [flS_len]; exact h)]
theorem own_setS {B g n cap i : Nat} {W : World} {xs : List Value} {x : Value} (h : W.ownsRow B 101 256 (.slice (some ⟨g, 0, none⟩) n cap) n xs) : (W.setCell ⟨g, i, none⟩ x).ownsRow B 101 256 (.slice (some ⟨g, 0, none⟩) n cap) n (xs.set i x) := by
  refine ⟨by rw [List.length_set]; exact h.1, ?_⟩
  rcases h.2 with ⟨e, _⟩ | ⟨g', cap', cur, hv, hb, hh, h4, h5, h6, h7⟩
  · cases e
  · injection hv with e1 e2 e3
    injection e1 with e1
    injection e1 with e1
    subst e1 e3
    refine .inr ⟨g, cap, cur.setIfInBounds i x, rfl, hb, Lib.heap_setCell_same hh x (i := i), h4, h5, by rw [Array.size_setIfInBounds]; exact h6, ?_⟩
    rw [Array.toList_setIfInBounds, List.take_set, h7]
theorem MaAt.set {B : Nat} {W : World} {b g cap : Nat} {av : Value} {A : List Bool} {n : Nat} {f : Nat → Nat → Int} (h : MaAt B W b av (.slice (some ⟨g, 0, none⟩) n cap) A n f) {s c : Nat} (hs : s < n) (hc : c < 256) {x : Int} (hx : 0 ≤ x ∧ x < (n : Int)) :
    MaAt B (W.setCell ⟨g, s * 256 + c, none⟩ (.int .i16 x)) b av (.slice (some ⟨g, 0, none⟩) n cap) A n (upS f s c x) ∧ B ≤ g := by
  have hk : Kept (fun q => q = g) W (W.setCell ⟨g, s * 256 + c, none⟩ (.int .i16 x)) := (Kept.refl (fun q => q = g) W).setCell (p := ⟨g, s * 256 + c, none⟩) (fun _ => rfl) _
  have hg : (Value.slice (some ⟨g, 0, none⟩) n cap).ownBlock = some g := rfl
  refine ⟨⟨hk.at h.hb (fun e => ?_), owns_kept h.ac hk (fun q e1 e2 => ?_), ?_, h.le, fun s' c' => ?_, h.sm⟩, own_ge3 h.st hg⟩
  · subst e
    exact ownBlock_ne3 h.st h.hb (by decide) hg
  · subst e2
    exact own_apart h.ac h.st (by decide) e1 hg
  · rw [← flS_set f n s c x hs hc]
    exact own_setS h.st
  · unfold upS
    split
    · exact .inr hx
    · exact h.rg s' c'
theorem MaAt.froz {B : Nat} {W : World} {b g cap : Nat} {av : Value} {A : List Bool} {n : Nat} {f : Nat → Nat → Int} (h : MaAt B W b av (.slice (some ⟨g, 0, none⟩) n cap) A n f) (i : Nat) : W.frozen? ⟨g, i, none⟩ = false := by
  rcases h.st.2 with ⟨e, _⟩ | ⟨g', cap', cur, hv, hb, hh, _⟩
  · cases e
  · injection hv with e1
    injection e1 with e1
    injection e1 with e1
    subst e1
    exact Lib.frozen_of_heap hh i
theorem MaAt.stc {B : Nat} {W : World} {b g cap : Nat} {av : Value} {A : List Bool} {n : Nat} {f : Nat → Nat → Int} (h : MaAt B W b av (.slice (some ⟨g, 0, none⟩) n cap) A n f) {s c : Nat} (hs : s < n) (hc : c < 256) : W.cell? ⟨g, s * 256 + c, none⟩ = some (.int .i16 (f s c)) := by
  rw [h.st.cellAt (s * 256 + c) (by omega)]
  exact flS_get f n s c hs hc
theorem MaAt.ne {B : Nat} {W : World} {b g cap k : Nat} {av : Value} {A : List Bool} {n : Nat} {f : Nat → Nat → Int} {cs : Array Value} {T : TypeId} {fr : Nat × Nat} (h : MaAt B W b av (.slice (some ⟨g, 0, none⟩) n cap) A n f) (hk : W.heap[k]? = some (.cells cs T fr)) (hT : T ≠ 101) : k ≠ g := fun e => by
  subst e
  exact ownBlock_ne3 h.st hk hT rfl
/-- The steps behind an edge's first bytes. -/
def ptS (f : Nat → Nat → Int) (s lo : Nat) (x : Int) (j : Nat) : Nat → Nat → Int := fun s' c' => if s' = s ∧ lo ≤ c' ∧ c' < lo + j then x else f s' c'
theorem ptS_zero (f : Nat → Nat → Int) (s lo : Nat) (x : Int) : ptS f s lo x 0 = f := by
  funext s' c'
  unfold ptS
  rw [if_neg (by omega)]
theorem ptS_next (f : Nat → Nat → Int) (s lo : Nat) (x : Int) (j : Nat) : upS (ptS f s lo x j) s (lo + j) x = ptS f s lo x (j + 1) := by
  funext s' c'
  unfold upS ptS
  by_cases e : s' = s ∧ c' = lo + j
  · rw [if_pos e, if_pos ⟨e.1, by omega, by omega⟩]
  · rw [if_neg e]
    by_cases e2 : s' = s ∧ lo ≤ c' ∧ c' < lo + j
    · rw [if_pos e2, if_pos ⟨e2.1, e2.2.1, by omega⟩]
    · rw [if_neg e2, if_neg (fun e3 => by
        obtain ⟨e4, e5, e6⟩ := e3
        by_cases e7 : c' = lo + j
        · exact e ⟨e4, e7⟩
        · exact e2 ⟨e4, e5, by omega⟩)]
theorem ptS_row (f : Nat → Nat → Int) (s lo : Nat) (x : Int) (j : Nat) : ptS f s lo x j s (lo + j) = f s (lo + j) := by
  unfold ptS
  rw [if_neg (by omega)]
/-- The steps behind an edge. -/
def lyF (f : Nat → Nat → Int) (e : Ed) : Nat → Nat → Int := fun s c => if covB e s c = true then e.t else f s c
theorem ptS_all (f : Nat → Nat → Int) (e : Ed) (h0 : 0 ≤ e.f) (hl : e.lo ≤ e.hi) : ptS f e.f.toNat e.lo e.t (e.hi + 1 - e.lo) = lyF f e := by
  funext s c
  unfold ptS lyF
  by_cases h : Cov e s c
  · rw [if_pos (covB_iff.2 h), if_pos ⟨by have := h.1; omega, h.2.1, by have := h.2.2; omega⟩]
  · rw [if_neg (fun e' => h (covB_iff.1 e')), if_neg (fun e' => h ⟨by omega, e'.2.1, by omega⟩)]
theorem lyF_st (E : List Ed) (k : Nat) : lyF (stF E k) (gE E k) = stF E (k + 1) := by
  funext s c
  rfl
/-- May an edge be laid? -/
def lyB (f : Nat → Nat → Int) (n : Nat) (e : Ed) : Bool := fitB n e && frB (f e.f.toNat) e.lo (e.hi + 1 - e.lo)
theorem lyB_ok (E : List Ed) (n k : Nat) : lyB (stF E k) n (gE E k) = okB n E k := rfl
theorem frB_stop {g : Nat → Int} {lo j m : Nat} (hj : j < m) (h : g (lo + j) ≠ -1) : frB g lo m = false := by
  cases e : frB g lo m with
  | false => rfl
  | true => exact absurd (frB_iff.1 e j hj) h
end Go.Proofs.Ytdponkpgokncdaa
