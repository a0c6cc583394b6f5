/-
  A stream and the document's beside another stream: what is known between two calls of either.
-/
import Derived.Test.YtomeoklhjdgaoaaDoorSux
namespace Go.Proofs.YtomeoklhjdgaoaaDoor
open Go.RowKit Go.Lib Go.Maps

theorem TxR.lt {p : Nat → Prop} {W : World} {v : Value} {T : List (List UInt8)} (h : TxR p W v T) : TxR (fun q => p q ∧ q < W.heap.size) W v T := by
  obtain ⟨ao, cap, h1, h2, h3, h4, h6, h5⟩ := h
  refine ⟨ao, cap, h1, h2, h3, h4, h6, fun h0 => ?_⟩
  obtain ⟨b, off, ha, hp, hb, hc⟩ := h5 h0
  exact ⟨b, off, ha, ⟨hp, hb⟩, hb, hc⟩
/-- A stream whose blocks and whose document's row lie in Z or are newer than B; its cell is mb. -/
structure PzS (T : List (List UInt8)) (Z : Nat → Prop) (B : Nat) (wr : World) (mb : Nat) (pv : Value) (so : Option Addr) (sn sc : Nat) (no : Bool) (len : Nat) (all out : List UInt8) (met : Int) (en : Bool) (F : Nat → Prop) : Prop where
  pl : PlS T F wr pv so sn sc no all out met en
  rw : no = false → TxR (fun q => Z q ∧ ¬ F q) wr (.slice so sn sc) T
  lo : ∀ q, F q → q < wr.heap.size
  zB : ∀ q, Z q → q < B
  wB : B ≤ wr.heap.size
  fz : ∀ q, F q → Z q ∨ B ≤ q
  mZ : ¬ Z mb
  mB : mb < B
  bx : wr.heap[mb]? = some (.cells #[.bool no, .slice so sn sc, sV all, sV out, zV met, .bool en] 30 (0, 0))
  le : all.length ≤ len
section
variable {T : List (List UInt8)} {Z F : Nat → Prop} {B : Nat} {wr : World} {mb : Nat} {pv : Value} {so : Option Addr} {sn sc : Nat} {no : Bool} {len : Nat} {all out : List UInt8} {met : Int} {en : Bool}
theorem PlS.apart {W W' : World} {S : Nat → Prop} (h : PlS T F W pv so sn sc no all out met en) (hr : no = false → TxR (fun q => ¬ F q) W' (.slice so sn sc) T) (hk : Kept S W W') (hS : ∀ q, S q → ¬ F q) : PlS T F W' pv so sn sc no all out met en := by
  rcases h with h | ⟨h1, b, h2, h3, h4, h5⟩
  · exact .inl h
  · refine .inr ⟨h1, b, h2, hr h1, h4, ?_⟩
    rcases h5 with ⟨a1, a2, a3, a4, a5⟩ | ⟨a1, a2⟩ | ⟨a1, a2, a3⟩
    · exact .inl ⟨a1, a2, a3, a4, a5.kept hk (fun q hq e => hS q e hq)⟩
    · exact .inr (.inl ⟨a1, a2.kept hk (fun q hq e => hS q e hq)⟩)
    · exact .inr (.inr ⟨a1, a2, a3.kept hk (fun q hq e => hS q e hq)⟩)
theorem PzS.nF (h : PzS T Z B wr mb pv so sn sc no len all out met en F) : ¬ F mb := fun e => (h.fz mb e).elim h.mZ (fun e2 => by have := h.mB; omega)
/-- Another's call. -/
theorem PzS.other (h : PzS T Z B wr mb pv so sn sc no len all out met en F) {X : World} {S : Nat → Prop} (hk : Kept S wr X) (h1 : ∀ q, S q → ¬ F q) (h2 : ∀ q, S q → ¬ Z q) (h3 : ¬ S mb) {l2 : Nat} (hl : len ≤ l2) : PzS T Z B X mb pv so sn sc no l2 all out met en F := by
  have hr : no = false → TxR (fun q => Z q ∧ ¬ F q) X (.slice so sn sc) T := fun e => (h.rw e).kept hk (fun b hb e2 => h2 b e2 hb.1)
  exact ⟨h.pl.apart (fun e => (hr e).mono (fun q hq => hq.2)) hk h1, hr, fun q e => Nat.lt_of_lt_of_le (h.lo q e) hk.size, h.zB, Nat.le_trans h.wB hk.size, h.fz, h.mZ, h.mB, hk.at h.bx h3, Nat.le_trans h.le hl⟩
theorem PzS.fresh (h : PzS T Z B wr mb pv so sn sc no len all out met en F) {X : World} (hk : Fresh wr X) : PzS T Z B X mb pv so sn sc no len all out met en F := h.other hk (fun _ e => e.elim) (fun _ e => e.elim) (fun e => e) (Nat.le_refl _)
theorem PzS.more (h : PzS T Z B wr mb pv so sn sc no len all out met en F) {l2 : Nat} (hl : len ≤ l2) : PzS T Z B wr mb pv so sn sc no l2 all out met en F := h.other (Kept.refl (fun _ => False) wr) (fun _ e => e.elim) (fun _ e => e.elim) (fun e => e) hl
/-- A call's answer is stored. -/
theorem PzS.next (h : PzS T Z B wr mb pv so sn sc no len all out met en F) {X Y : World} {all' out' : List UInt8} {met' : Int} {en' : Bool} {F' : Nat → Prop} {l2 : Nat} (hp : PlS T F' X pv so sn sc no all' out' met' en') (hm : Mvd F wr F' X) (hl : all'.length ≤ l2)
    (hb : Y.heap[mb]? = some (.cells #[.bool no, .slice so sn sc, sV all', sV out', zV met', .bool en'] 30 (0, 0))) (hk : Kept (fun q => q = mb) X Y) : PzS T Z B Y mb pv so sn sc no l2 all' out' met' en' (fun q => F' q ∧ q < X.heap.size) := by
  have hwB := h.wB
  have hmB := h.mB
  have hsz := hm.1.size
  have hZF : ∀ q, Z q → ¬ F q → ¬ F' q := fun q hz hf e => (hm.2.2 q e).elim hf (fun e2 => by have := h.zB q hz; omega)
  have hmF : ¬ F' mb := fun e => (hm.2.2 mb e).elim h.nF (fun e2 => by omega)
  have hr1 : no = false → TxR (fun q => Z q ∧ ¬ (F' q ∧ q < X.heap.size)) X (.slice so sn sc) T := fun e => ((h.rw e).kept hm.1 (fun b hb e2 => hb.2 e2)).mono (fun q hq => ⟨hq.1, fun e2 => hZF q hq.1 hq.2 e2.1⟩)
  have hr2 : no = false → TxR (fun q => Z q ∧ ¬ (F' q ∧ q < X.heap.size)) Y (.slice so sn sc) T := fun e => (hr1 e).kept hk (fun q hq e2 => h.mZ ((show q = mb from e2) ▸ hq.1))
  refine ⟨hp.low.apart (fun e => (hr2 e).mono (fun q hq => hq.2)) hk (fun q e e2 => by have e' : q = mb := e; subst e'; exact hmF e2.1), hr2, fun q e => Nat.lt_of_lt_of_le e.2 hk.size, h.zB, Nat.le_trans hwB (Nat.le_trans hsz hk.size), ?_, h.mZ, hmB, hb, hl⟩
  intro q e
  rcases hm.2.2 q e.1 with e2 | e2
  · exact h.fz q e2
  · exact .inr (Nat.le_trans hwB e2)
end
/-- Two streams beside each other. -/
structure Twin (T1 T2 : List (List UInt8)) (Z1 Z2 : Nat → Prop) (B : Nat) (w wr : World) (m1 m2 : Nat) (p1 p2 : Value) (so1 so2 : Option Addr) (sn1 sc1 sn2 sc2 : Nat) (no1 no2 : Bool) (len : Nat) (all1 out1 all2 out2 : List UInt8) (met1 met2 : Int) (en1 en2 : Bool) (F1 F2 : Nat → Prop) : Prop where
  a : PzS T1 Z1 B wr m1 p1 so1 sn1 sc1 no1 len all1 out1 met1 en1 F1
  b : PzS T2 Z2 B wr m2 p2 so2 sn2 sc2 no2 len all2 out2 met2 en2 F2
  zz : ∀ q, Z1 q → ¬ Z2 q
  ff : ∀ q, F1 q → ¬ F2 q
  z12 : ¬ Z1 m2
  z21 : ¬ Z2 m1
  mm : m1 ≠ m2
  fr : Fresh w wr
  l1 : ∀ q, Z1 q → w.heap.size ≤ q
  l2 : ∀ q, Z2 q → w.heap.size ≤ q
  k1 : w.heap.size ≤ m1
  k2 : w.heap.size ≤ m2
section
variable {T1 T2 : List (List UInt8)} {Z1 Z2 F1 F2 : Nat → Prop} {B : Nat} {w wr : World} {m1 m2 : Nat} {p1 p2 : Value} {so1 so2 : Option Addr} {sn1 sc1 sn2 sc2 : Nat} {no1 no2 : Bool} {len : Nat} {all1 out1 all2 out2 : List UInt8} {met1 met2 : Int} {en1 en2 : Bool}
theorem Twin.fresh (h : Twin T1 T2 Z1 Z2 B w wr m1 m2 p1 p2 so1 so2 sn1 sc1 sn2 sc2 no1 no2 len all1 out1 all2 out2 met1 met2 en1 en2 F1 F2) {X : World} (hk : Fresh wr X) : Twin T1 T2 Z1 Z2 B w X m1 m2 p1 p2 so1 so2 sn1 sc1 sn2 sc2 no1 no2 len all1 out1 all2 out2 met1 met2 en1 en2 F1 F2 :=
  ⟨h.a.fresh hk, h.b.fresh hk, h.zz, h.ff, h.z12, h.z21, h.mm, h.fr.trans hk (fun _ _ e => e), h.l1, h.l2, h.k1, h.k2⟩
theorem Twin.swap (h : Twin T1 T2 Z1 Z2 B w wr m1 m2 p1 p2 so1 so2 sn1 sc1 sn2 sc2 no1 no2 len all1 out1 all2 out2 met1 met2 en1 en2 F1 F2) : Twin T2 T1 Z2 Z1 B w wr m2 m1 p2 p1 so2 so1 sn2 sc2 sn1 sc1 no2 no1 len all2 out2 all1 out1 met2 met1 en2 en1 F2 F1 :=
  ⟨h.b, h.a, fun q e e2 => h.zz q e2 e, fun q e e2 => h.ff q e2 e, h.z21, h.z12, fun e => h.mm e.symm, h.fr, h.l2, h.l1, h.k2, h.k1⟩
/-- The first one's call. -/
theorem Twin.next (h : Twin T1 T2 Z1 Z2 B w wr m1 m2 p1 p2 so1 so2 sn1 sc1 sn2 sc2 no1 no2 len all1 out1 all2 out2 met1 met2 en1 en2 F1 F2) {X Y : World} {all' out' : List UInt8} {met' : Int} {en' : Bool} {F' : Nat → Prop} {l2 : Nat} (hp : PlS T1 F' X p1 so1 sn1 sc1 no1 all' out' met' en') (hm : Mvd F1 wr F' X) (hl : all'.length ≤ l2) (hl2 : len ≤ l2)
    (hb : Y.heap[m1]? = some (.cells #[.bool no1, .slice so1 sn1 sc1, sV all', sV out', zV met', .bool en'] 30 (0, 0))) (hk : Kept (fun q => q = m1) X Y) :
    Twin T1 T2 Z1 Z2 B w Y m1 m2 p1 p2 so1 so2 sn1 sc1 sn2 sc2 no1 no2 l2 all' out' all2 out2 met' met2 en' en2 (fun q => F' q ∧ q < X.heap.size) F2 := by
  have hS : Kept (fun q => F1 q ∨ q = m1) wr Y := (hm.1.mono (fun q _ e => .inl e)).trans hk (fun i hi e => .inr e)
  have hm1B := h.a.mB
  have hm2B := h.b.mB
  have hwB := h.a.wB
  have hn21 : ¬ F2 m1 := fun e => (h.b.fz m1 e).elim h.z21 (fun e2 => by omega)
  have hn12 : ¬ F1 m2 := fun e => (h.a.fz m2 e).elim h.z12 (fun e2 => by omega)
  refine ⟨h.a.next hp hm hl hb hk, h.b.other hS ?_ ?_ ?_ hl2, h.zz, ?_, h.z12, h.z21, h.mm, ?_, h.l1, h.l2, h.k1, h.k2⟩
  · rintro q (e | e) e2
    · exact h.ff q e e2
    · subst e; exact hn21 e2
  · rintro q (e | e) e2
    · rcases h.a.fz q e with e3 | e3
      · exact h.zz q e3 e2
      · have := h.b.zB q e2; omega
    · subst e; exact h.z21 e2
  · rintro (e | e)
    · exact hn12 e
    · exact h.mm e.symm
  · rintro q ⟨e, _⟩ e2
    rcases hm.2.2 q e with e3 | e3
    · exact h.ff q e3 e2
    · have := h.b.lo q e2; omega
  · have hfr := h.fr
    have hsz := hfr.size
    have hk1 := h.k1
    refine hfr.trans hS ?_
    rintro i hi (e | e)
    · rcases h.a.fz i e with e3 | e3
      · have := h.l1 i e3; omega
      · omega
    · subst e; omega
end
/-- A stream that has just begun. -/
theorem PzS.start {T : List (List UInt8)} {F : Nat → Prop} {w W1 : World} {pv : Value} {so : Option Addr} {sn sc : Nat} {no : Bool} (hp : PlS T F W1 pv so sn sc no [] [] (-1) false) (hn : Nw0 w F) (hr : no = false → TxR (fun q => ¬ F q ∧ w.heap.size ≤ q) W1 (.slice so sn sc) T) :
    PzS T (fun q => w.heap.size ≤ q ∧ q < W1.heap.size) (W1.heap.size + 1) (W1.alloc (.cells #[.bool no, .slice so sn sc, sV [], sV [], zV (-1), .bool false] 30)) W1.heap.size pv so sn sc no 0 [] [] (-1) false (fun q => F q ∧ q < W1.heap.size) := by
  have hk2 : Fresh W1 (W1.alloc (.cells #[.bool no, .slice so sn sc, sV [], sV [], zV (-1), .bool false] 30)) := (Kept.refl _ W1).alloc _
  refine ⟨hp.low.fresh hk2, fun e => ((hr e).lt.fresh hk2).mono (fun q hq => ⟨⟨hq.1.2, hq.2⟩, fun e2 => hq.1.1 e2.1⟩), fun q e => Nat.lt_of_lt_of_le e.2 hk2.size, fun q e => by have := e.2; omega, by rw [World.size_alloc]; exact Nat.le_refl _, fun q e => .inl ⟨hn q e.1, e.2⟩, fun e => by have := e.2; omega, by omega, heap_alloc_new W1 _, Nat.le_refl _⟩
theorem PzS.up {T : List (List UInt8)} {Z F : Nat → Prop} {B B' : Nat} {wr : World} {mb : Nat} {pv : Value} {so : Option Addr} {sn sc : Nat} {no : Bool} {len : Nat} {all out : List UInt8} {met : Int} {en : Bool} (h : PzS T Z B wr mb pv so sn sc no len all out met en F) (hz : ∀ q, F q → Z q) (h1 : B ≤ B') (h2 : B' ≤ wr.heap.size) : PzS T Z B' wr mb pv so sn sc no len all out met en F :=
  ⟨h.pl, h.rw, h.lo, fun q e => Nat.lt_of_lt_of_le (h.zB q e) h1, h2, fun q e => .inl (hz q e), h.mZ, by have := h.mB; omega, h.bx, h.le⟩
/-- The second has begun behind the first. -/
theorem twin_of {T1 T2 : List (List UInt8)} {Z1 F1 F : Nat → Prop} {B1 : Nat} {w W2 W3 : World} {m1 : Nat} {p1 p2 : Value} {so1 so2 : Option Addr} {sn1 sc1 sn2 sc2 : Nat} {no1 no2 : Bool} (a : PzS T1 Z1 B1 W2 m1 p1 so1 sn1 sc1 no1 0 [] [] (-1) false F1) (az : ∀ q, F1 q → Z1 q) (al : ∀ q, Z1 q → w.heap.size ≤ q) (ak : w.heap.size ≤ m1) (af : Fresh w W2)
    (b : PlS T2 F W3 p2 so2 sn2 sc2 no2 [] [] (-1) false) (bn : Nw0 W2 F) (br : no2 = false → TxR (fun q => ¬ F q ∧ W2.heap.size ≤ q) W3 (.slice so2 sn2 sc2) T2) (bf : Fresh W2 W3) :
    Twin T1 T2 Z1 (fun q => W2.heap.size ≤ q ∧ q < W3.heap.size) (W3.heap.size + 1) w (W3.alloc (.cells #[.bool no2, .slice so2 sn2 sc2, sV [], sV [], zV (-1), .bool false] 30)) m1 W3.heap.size p1 p2 so1 so2 sn1 sc1 sn2 sc2 no1 no2 0 [] [] [] [] (-1) (-1) false false F1 (fun q => F q ∧ q < W3.heap.size) := by
  have b' := PzS.start b bn br
  have hk : Fresh W2 (W3.alloc (.cells #[.bool no2, .slice so2 sn2 sc2, sV [], sV [], zV (-1), .bool false] 30)) := bf.alloc _
  have s1 := a.wB
  have s2 := bf.size
  have s3 := af.size
  have s4 := a.mB
  refine ⟨(a.fresh hk).up az (by omega) (by rw [World.size_alloc]; exact Nat.le_refl _), b', fun q e e2 => by have := a.zB q e; have := e2.1; omega, fun q e e2 => by have := a.zB q (az q e); have := bn q e2.1; omega, fun e => by have := a.zB _ e; omega, fun e => by have := e.1; omega, by omega, af.trans hk (fun _ _ e => e), al, fun q e => by have := e.1; omega, ak, by omega⟩
end Go.Proofs.YtomeoklhjdgaoaaDoor
