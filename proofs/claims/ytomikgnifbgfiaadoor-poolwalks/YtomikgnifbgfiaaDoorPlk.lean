/-
  A script of Ops, out of its reading; a pool and the document's, between two steps.
-/
import Derived.Test.YtomikgnifbgfiaaDoorPlj
import Derived.Test.YtomikgnifbgfiaaDoorLaP
import Derived.Deep.Slices
import Derived.SizedLaws
namespace Go.Proofs.YtomikgnifbgfiaaDoor
open Go.ChangeShapes Go.WideShapes Go.ChangeAt Go.RowKit

/-- An Op's three numbers. -/
structure O3 where
  k : Int
  p : Int
  x : Int

/-- The Ops of a script lie in memory. -/
def ScrAt (w : World) (v : Value) (l : List O3) : Prop :=
  ∃ ao cap, v = .slice ao l.length cap ∧ l.length ≤ 140737488351232 ∧ (l ≠ [] → ∃ b off, ao = some ⟨b, off, none⟩ ∧ b < w.heap.size ∧ ∀ i (h : i < l.length),
    w.cell? ⟨b, off + i * 3, none⟩ = some (.int .i64 l[i].k) ∧ w.cell? ⟨b, off + i * 3 + 1, none⟩ = some (.int .i64 l[i].p) ∧ w.cell? ⟨b, off + i * 3 + 2, none⟩ = some (.int .i64 l[i].x))
theorem ScrAt.at {w W : World} {v : Value} {l : List O3} (h : ScrAt w v l) (hk : Fresh w W) {i : Nat} (hi : i < l.length) : ∃ b off cap, v = .slice (some ⟨b, off, none⟩) l.length cap ∧
    W.cell? ⟨b, off + i * 3, none⟩ = some (.int .i64 l[i].k) ∧ W.cell? ⟨b, off + i * 3 + 1, none⟩ = some (.int .i64 l[i].p) ∧ W.cell? ⟨b, off + i * 3 + 2, none⟩ = some (.int .i64 l[i].x) := by
  obtain ⟨ao, cap, hv, _, hc⟩ := h
  obtain ⟨b, off, ha, hb, hcl⟩ := hc (fun e => by rw [e] at hi; simp at hi)
  obtain ⟨c0, c1, c2⟩ := hcl i hi
  have e : ∀ j, W.cell? ⟨b, j, none⟩ = w.cell? ⟨b, j, none⟩ := fun j => hk.cell (p := ⟨b, j, none⟩) hb (fun e => e)
  exact ⟨b, off, cap, by rw [hv, ha], (e _).trans c0, (e _).trans c1, (e _).trans c2⟩
theorem ScrAt.shape {w : World} {v : Value} {l : List O3} (h : ScrAt w v l) : ∃ ao cap, v = .slice ao l.length cap := let ⟨ao, cap, hv, _⟩ := h; ⟨ao, cap, hv⟩

theorem list3 {α : Type} {l : List α} (h : l.length = 3) : ∃ a b c, l = [a, b, c] := by
  match l, h with
  | [a, b, c], _ => exact ⟨a, b, c, rfl⟩
theorem Tryd.cOp : Tryd.prog.cellsOf 30 = 3 := by kernel_rfl
theorem Tryd.cI : Tryd.prog.cellsOf 3 = 1 := by kernel_rfl
theorem op_parts {H : Type} {enc : TypeId × Value → H} {W : World} {fuel : Nat} {cs : List Value} {x : DataW H × List MemPlace} (h : DataW.trod enc Tryd.prog W 0 (fun _ => true) true fuel 30 cs = some x) :
    ∃ o : O3, cs = [.int .i64 o.k, .int .i64 o.p, .int .i64 o.x] := by
  obtain ⟨xs, m, _, hxe, hl, hx, hfs⟩ := DataW.trod_struct Tryd.underlying30 h
  rw [Tryd.cOp] at hl
  obtain ⟨c0, c1, c2, rfl⟩ := list3 hl
  obtain ⟨x0, x1, x2, rfl⟩ := list3 (show xs.length = 3 from hx)
  have h0 : DataW.trod enc Tryd.prog W 0 (fun _ => true) true m 3 [c0] = some x0 := by simpa [Tryd.cI] using hfs 0 _ rfl
  have h1 : DataW.trod enc Tryd.prog W 0 (fun _ => true) true m 3 [c1] = some x1 := by simpa [Tryd.cI] using hfs 1 _ rfl
  have h2 : DataW.trod enc Tryd.prog W 0 (fun _ => true) true m 3 [c2] = some x2 := by simpa [Tryd.cI] using hfs 2 _ rfl
  obtain ⟨k, e0, rfl, w0⟩ := DataW.trod_int Tryd.underlying3 h0
  obtain ⟨n, e1, rfl, w1⟩ := DataW.trod_int Tryd.underlying3 h1
  obtain ⟨b, e2, rfl, w2⟩ := DataW.trod_int Tryd.underlying3 h2
  simp only [List.cons.injEq, and_true] at e0 e1 e2
  subst e0 e1 e2
  exact ⟨⟨k, n, b⟩, rfl⟩

theorem script_at {H : Type} {enc : TypeId × Value → H} {W : World} {fuel : Nat} {v : Value} {x : DataW H × List MemPlace} (h : DataW.trod enc Tryd.prog W 0 (fun _ => true) true fuel 22 [v] = some x) (hsz : ∀ es sp, x.1 = .slice es sp → es.length ≤ 140737488351232) :
    ∃ l : List O3, ScrAt W v l := by
  rcases Go.Deep.open_slice Tryd.underlying22 h with ⟨hcs, hx⟩ | ⟨a, len, cap, m, n, D, Pl, hcs, _, hl, hmx, hm, hx, hel⟩
  · exact ⟨[], none, 0, by simpa using hcs, by simp, fun e => absurd rfl e⟩
  · simp only [if_true] at hm
    subst hm
    rw [Tryd.cOp] at hel
    have hlen : len ≤ 140737488351232 := by
      have := hsz _ _ (by rw [hx])
      rw [List.length_map, List.length_range] at this
      exact this
    have build : ∀ k, k ≤ len → ∃ l : List O3, l.length = k ∧ ∀ i (hi : i < l.length), W.cells? 0 (a.add (i * 3)) 3 = some [.int .i64 l[i].k, .int .i64 l[i].p, .int .i64 l[i].x] := by
      intro k
      induction k with
      | zero => intro _; exact ⟨[], rfl, fun i hi => by simp at hi⟩
      | succ k ih =>
        intro hk
        obtain ⟨l, hlk, hcl⟩ := ih (by omega)
        obtain ⟨cs', hc, ht⟩ := hel k (by omega)
        obtain ⟨o, hcs'⟩ := op_parts ht
        refine ⟨l ++ [o], by simp [hlk], fun i hi => ?_⟩
        by_cases hik : i < l.length
        · rw [List.getElem_append_left hik]
          exact hcl i hik
        · have hie : i = l.length := by simp at hi; omega
          subst hie
          rw [List.getElem_concat_length rfl]
          rw [hlk, hc, hcs']
    obtain ⟨l, hll, hcl⟩ := build len (Nat.le_refl _)
    refine ⟨l, some a, m, by rw [hll]; simpa using hcs, by omega, fun hne => ?_⟩
    have hpos : 0 < l.length := List.length_pos_iff.2 hne
    obtain ⟨b, off, spot⟩ := a
    have h0 := (World.cells?_some (hcl 0 hpos)).2.2 0 (by omega)
    have hspot : spot = none := by simpa [Addr.add] using World.cell?_spot h0
    subst hspot
    have hb0 := World.block_lt_of_cell? W _ h0
    refine ⟨b, off, rfl, by simpa [Addr.add] using hb0, fun i hi => ?_⟩
    have hc := (World.cells?_some (hcl i hi)).2.2
    have c0 := hc 0 (by omega)
    have c1 := hc 1 (by omega)
    have c2 := hc 2 (by omega)
    simp only [Addr.add_lit] at c0 c1 c2
    exact ⟨c0, c1, c2⟩
theorem bytesOp : Tryd.prog.bytesOf 30 = 24 := by kernel_rfl

/-- A pool that the call has made, and the document's. -/
structure Both (w wr : World) (F : Nat → Prop) (b : Nat) (v : Value) (l : List (Option Int)) : Prop where
  pool : PoolAt wr F b l
  ref : RefAt wr v l
  new : ∀ k, F k → w.heap.size ≤ k
  fr : Fresh w wr
theorem Both.of_turned {w wr w' : World} {F : Nat → Prop} {b : Nat} {v : Value} {l l' : List (Option Int)} {v' : Value} (h : Both w wr F b v l) (hr : RefAt w' v' l') (ht : Turned wr F b l' w') : ∃ F', Both w w' F' b v' l' ∧ Kept F wr w' ∧ ∀ k, k < wr.heap.size → F' k → F k := by
  obtain ⟨F', t1, t2, t3⟩ := ht
  have hs := h.fr.size
  refine ⟨F', ⟨t1, hr, fun k hk => ?_, h.fr.trans t2 (fun i hi e => ?_)⟩, t2, t3⟩
  · by_cases hkw : k < wr.heap.size
    · exact h.new k (t3 k hkw hk)
    · omega
  · have := h.new i e; omega
theorem Both.fresh {w wr w' : World} {F : Nat → Prop} {b : Nat} {v : Value} {l : List (Option Int)} (h : Both w wr F b v l) (hF : Fresh wr w') : Both w w' F b v l :=
  ⟨h.pool.kept hF (fun _ _ e => e), h.ref.fresh hF, h.new, h.fr.trans hF (fun _ _ e => e)⟩
theorem Both.tab {w wr : World} {F : Nat → Prop} {b : Nat} {v : Value} {l : List (Option Int)} (h : Both w wr F b v l) (hT : Tab w) : Tab wr := hT.kept h.fr (fun e => e)
/-- A pool that was just made. -/
theorem Both.start {w w' : World} {v : Value} {N : Nat} (hp : PoolAt w' (only w.heap.size) w.heap.size (List.replicate N none)) (hr : RefAt w' v (List.replicate N none)) (hF : Fresh w w') : Both w w' (only w.heap.size) w.heap.size v (List.replicate N none) :=
  ⟨hp, hr, fun k (e : k = w.heap.size) => by omega, hF⟩
end Go.Proofs.YtomikgnifbgfiaaDoor
