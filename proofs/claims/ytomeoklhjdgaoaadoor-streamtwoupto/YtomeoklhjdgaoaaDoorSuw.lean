/-
  Scripts of calls on a stream, out of their readings.
-/
import Derived.Test.YtomeoklhjdgaoaaDoorSuv
import Derived.Test.YtomeoklhjdgaoaaDoorStz
namespace Go.Proofs.YtomeoklhjdgaoaaDoor
open Go.ChangeShapes Go.WideShapes Go.ChangeAt Go.RowKit Go.Lib Go.Maps

/-- A call: its kind, its piece. -/
structure So where
  k : Int
  p : List UInt8
def gO (L : List So) (i : Nat) : So := L.getD i ⟨0, []⟩
/-- The bytes of the first pieces. -/
def psF (L : List So) : Nat → Nat
  | 0 => 0
  | i + 1 => psF L i + (gO L i).p.length
theorem psF_mono (L : List So) (i : Nat) : ∀ m, psF L i ≤ psF L (i + m)
  | 0 => Nat.le_refl _
  | m + 1 => Nat.le_trans (psF_mono L i m) (Nat.le_add_right _ _)
theorem psF_le {L : List So} {i n : Nat} (h : i ≤ n) : psF L i ≤ psF L n := by
  have := psF_mono L i (n - i)
  rwa [show i + (n - i) = n by omega] at this
theorem gO_app {l : List So} {o : So} {i : Nat} (h : i < l.length) : gO (l ++ [o]) i = gO l i := by
  unfold gO
  rw [List.getD_eq_getElem?_getD, List.getD_eq_getElem?_getD, List.getElem?_append_left h]
theorem gO_last (l : List So) (o : So) : gO (l ++ [o]) l.length = o := by
  unfold gO
  rw [List.getD_eq_getElem?_getD, List.getElem?_append_right (Nat.le_refl _), Nat.sub_self]
  rfl
theorem psF_app (l : List So) (o : So) : ∀ i, i ≤ l.length → psF (l ++ [o]) i = psF l i
  | 0, _ => rfl
  | i + 1, h => by
    show psF (l ++ [o]) i + (gO (l ++ [o]) i).p.length = psF l i + (gO l i).p.length
    rw [psF_app l o i (by omega), gO_app (by omega)]
/-- A row of calls. -/
def OpR (W : World) (v : Value) (L : List So) : Prop :=
  ∃ ao cap, v = .slice ao L.length cap ∧ L.length ≤ 1048576 ∧ psF L L.length ≤ 1048576 ∧ (∀ i, i < L.length → I64 (gO L i).k) ∧
    (0 < L.length → ∃ b off, ao = some ⟨b, off, none⟩ ∧ b < W.heap.size ∧ ∀ i, i < L.length → W.cell? ⟨b, off + i * 2, none⟩ = some (zV (gO L i).k) ∧ W.cell? ⟨b, off + i * 2 + 1, none⟩ = some (sV (gO L i).p))
theorem OpR.fresh {W X : World} {v : Value} {L : List So} (h : OpR W v L) (hk : Fresh W X) : OpR X v L := by
  obtain ⟨ao, cap, h1, h2, h3, h4, h5⟩ := h
  refine ⟨ao, cap, h1, h2, h3, h4, fun h0 => ?_⟩
  obtain ⟨b, off, ha, hb, hc⟩ := h5 h0
  exact ⟨b, off, ha, Nat.lt_of_lt_of_le hb hk.size, fun i hi => ⟨(hk.cell (p := ⟨b, off + i * 2, none⟩) hb (fun e => e)).trans (hc i hi).1, (hk.cell (p := ⟨b, off + i * 2 + 1, none⟩) hb (fun e => e)).trans (hc i hi).2⟩⟩
theorem Tryd.cOp : Tryd.prog.cellsOf 34 = 2 := by kernel_rfl
theorem Tryd.cIo : Tryd.prog.cellsOf 3 = 1 := by kernel_rfl
theorem Tryd.cSo : Tryd.prog.cellsOf 9 = 1 := by kernel_rfl
theorem list2o {α : Type} {l : List α} (h : l.length = 2) : ∃ a b, l = [a, b] := by
  match l, h with
  | [a, b], _ => exact ⟨a, b, rfl⟩
theorem op_parts {H : Type} {enc : TypeId × Value → H} {W : World} {fuel : Nat} {cs : List Value} {x : DataW H × List MemPlace} (h : DataW.trod enc Tryd.prog W 0 (fun _ => true) true fuel 34 cs = some x) :
    ∃ o : So, cs = [zV o.k, sV o.p] ∧ I64 o.k ∧ o.p.length + 1 ≤ Rows.uptoBulk x.1 := by
  obtain ⟨xs, m, _, hxe, hl, hx, hfs⟩ := DataW.trod_struct Tryd.underlying34 h
  rw [Tryd.cOp] at hl
  obtain ⟨c0, c1, rfl⟩ := list2o hl
  obtain ⟨x0, x1, rfl⟩ := list2o (show xs.length = 2 from hx)
  have h0 : DataW.trod enc Tryd.prog W 0 (fun _ => true) true m 3 [c0] = some x0 := by simpa [Tryd.cIo] using hfs 0 _ rfl
  have h1 : DataW.trod enc Tryd.prog W 0 (fun _ => true) true m 9 [c1] = some x1 := by simpa [Tryd.cSo] using hfs 1 _ rfl
  obtain ⟨k, e0, rfl, w0⟩ := DataW.trod_int Tryd.underlying3 h0
  obtain ⟨s, e1, rfl, w1⟩ := DataW.trod_string Tryd.underlying9 h1
  simp only [List.cons.injEq, and_true] at e0 e1
  subst e0 e1
  refine ⟨⟨k, s.data.toList⟩, rfl, i64_of w0, ?_⟩
  subst hxe
  simp only [List.map_cons, List.map_nil, Rows.uptoBulk, Rows.uptoBulkAll]
  omega
set_option maxRecDepth 100000 in
theorem ops_of {H : Type} {enc : TypeId × Value → H} {W : World} {r : Reach} {b0 : Nat} {v : Value} {d : DataW H} {p : List MemPlace} (hv : Value.okWide Tryd.prog W r b0 27 v) (h : DataW.Trod enc Tryd.prog W 0 (fun _ => true) true 27 v d p) (hb : Rows.uptoBulk d ≤ 1048576) :
    ∃ L : List So, OpR W v L := by
  obtain ⟨ao, ln, cap, rfl⟩ := okWide_slice Tryd.underlying27 hv
  obtain ⟨fuel, hf⟩ := h
  rcases Go.Deep.open_slice Tryd.underlying27 hf with ⟨hcs, hx⟩ | ⟨a, len, cap', m, n, D, Pl, hcs, _, hl, hmx, hm, hx, hel⟩
  · have h0 : ao = none ∧ ln = 0 ∧ cap = 0 := by simpa [Value.cells] using hcs
    obtain ⟨rfl, rfl, rfl⟩ := h0
    exact ⟨[], none, 0, rfl, by simp, by simp [psF], fun i hi => absurd hi (Nat.not_lt_zero _), fun e => absurd e (Nat.lt_irrefl _)⟩
  · simp only [if_true] at hm
    subst hm
    rw [Tryd.cOp] at hel
    have hcs2 : ao = some a ∧ ln = len ∧ cap = m := by simpa [Value.cells] using hcs
    obtain ⟨rfl, rfl, rfl⟩ := hcs2
    have e' : d = .slice ((List.range ln).map D) _ := (Prod.ext_iff.1 hx).1
    rw [e'] at hb
    simp only [Rows.uptoBulk] at hb
    have build : ∀ k, k ≤ ln → ∃ l : List So, l.length = k ∧ (∀ o ∈ l, I64 o.k) ∧ (∀ i (hi : i < l.length), W.cells? 0 (a.add (i * 2)) 2 = some [zV l[i].k, sV l[i].p]) ∧ psF l k + k ≤ Rows.uptoBulkAll ((List.range k).map D) + k ∧ k ≤ Rows.uptoBulkAll ((List.range k).map D) := by
      intro k
      induction k with
      | zero => intro _; exact ⟨[], rfl, fun o ho => by simp at ho, fun i hi => by simp at hi, by simp [psF], Nat.zero_le _⟩
      | succ k ih =>
        intro hk
        obtain ⟨l, hlk, hwf, hcl, hps, hkk⟩ := ih (by omega)
        obtain ⟨cs', hc, ht⟩ := hel k (by omega)
        obtain ⟨o, hcs', ho1, ho2⟩ := op_parts ht
        have ho3 : o.p.length + 1 ≤ Rows.uptoBulk (D k) := ho2
        have hb2 : Rows.uptoBulkAll ((List.range (k + 1)).map D) = Rows.uptoBulkAll ((List.range k).map D) + Rows.uptoBulk (D k) := by
          rw [List.range_succ, List.map_append, bulk_append]
          simp only [List.map_cons, List.map_nil, Rows.uptoBulkAll]
          omega
        refine ⟨l ++ [o], by simp [hlk], fun p hp => ?_, fun i hi => ?_, ?_, by rw [hb2]; omega⟩
        · rcases List.mem_append.1 hp with hp | hp
          · exact hwf p hp
          · rw [List.mem_singleton.1 hp]; exact ho1
        · by_cases hik : i < l.length
          · rw [List.getElem_append_left hik]
            exact hcl i hik
          · have hie : i = l.length := by simp at hi; omega
            subst hie
            rw [List.getElem_concat_length rfl]
            rw [hlk, hc, hcs']
        · rw [hb2]
          show psF (l ++ [o]) k + (gO (l ++ [o]) k).p.length + (k + 1) ≤ _
          rw [psF_app l o k (by omega), ← hlk, gO_last, hlk]
          omega
    obtain ⟨l, hll, hwf, hcl, hps, hkk⟩ := build ln (Nat.le_refl _)
    have hgm : ∀ i (hi : i < l.length), gO l i = l[i] := fun i hi => by rw [gO, List.getD_eq_getElem?_getD, List.getElem?_eq_getElem hi]; rfl
    refine ⟨l, some a, cap, by rw [hll], by omega, by rw [hll]; omega, fun i hi => by rw [hgm i hi]; exact hwf _ (List.getElem_mem hi), fun hpos => ?_⟩
    obtain ⟨b, off, spot⟩ := a
    have h0 := (World.cells?_some (hcl 0 hpos)).2.2 0 (by omega)
    have hspot : spot = none := by simpa [Addr.add] using World.cell?_spot h0
    subst hspot
    have hb0 := World.block_lt_of_cell? W _ h0
    refine ⟨b, off, rfl, by simpa [Addr.add] using hb0, fun i hi => ?_⟩
    have hc := (World.cells?_some (hcl i hi)).2.2
    have c0 := hc 0 (by omega)
    have c1 := hc 1 (by omega)
    simp only [Addr.add_lit] at c0 c1
    rw [hgm i hi]
    exact ⟨c0, c1⟩
end Go.Proofs.YtomeoklhjdgaoaaDoor
