/-
  A stream in memory; letOut, endWith.
-/
import Derived.Test.YtomeoklhjdgaoaaDoorSte
namespace Go.Proofs.YtomeoklhjdgaoaaDoor
open Go.RowKit Go.Lib Go.Maps

/-- Appending a text's bytes to a row: where the new slice lies. -/
theorem run_append_str {P : Program} (w : World) (t u ty e : TypeId) (i : TypeInfo) (ht : P.underlying t = some (.slice e)) (hu : P.underlying u = some .string) (hi : P.info? e = some i) (hz : i.zero = some (.int .u8 0))
    (hsize : i.size = 1) (hby : i.bytes = 1) (v : Value) (n : Nat) (xs : List Value) (hown : w.ownsRow 0 e 1 v n xs) (s : ByteArray) (hb : n + s.size ≤ 1000000000000) :
    ∃ v' w', (Builtin.append_ #[t, u] ty #[v, .string s]).run P w = .ok v' w' ∧ w'.ownsRow 0 e 1 v' (n + s.size) (xs ++ bytesV s.data.toList) ∧ w.grownBy w' v.ownBlock ∧
      (v'.ownBlock = v.ownBlock ∨ ∃ g, v'.ownBlock = some g ∧ w.heap.size ≤ g) := by
  obtain ⟨v', w', hr, h2, h3, _⟩ := Lib.run_append_own_string (P := P) w 0 t u ty e i ht hu hi hz hsize hby v n xs hown s (by unfold maxLen; omega) (by omega) (Nat.zero_le _)
  refine ⟨v', w', hr, h2, h3, ?_⟩
  rcases hown.2 with ⟨rfl, rfl⟩ | ⟨g, cap, cur, rfl, _, hg, hnc, hcm, hcs, htk⟩
  · have hx : xs = [] := List.eq_nil_of_length_eq_zero (by simpa using hown.1)
    subst hx
    obtain ⟨v2, w2, hr2, h22, _, _⟩ := Lib.run_append_own_string (P := P) w w.heap.size t u ty e i ht hu hi hz hsize hby _ 0 [] (World.ownsRow_nil _ _ _ _) s (by unfold maxLen; omega) (by omega) (Nat.le_refl _)
    rw [hr] at hr2
    simp only [Result.ok.injEq] at hr2
    obtain ⟨rfl, rfl⟩ := hr2
    rcases h22.2 with ⟨rfl, _⟩ | ⟨g, cap, cur, rfl, hb, _⟩
    · exact .inl rfl
    · exact .inr ⟨g, rfl, hb⟩
  · by_cases hroom : n + s.size ≤ cap
    · have hr2 := Lib.run_append_room_string (P := P) w t u ty e i ht hu hi hsize g n cap cur hg s hroom (by omega)
      rw [hr] at hr2
      simp only [Result.ok.injEq] at hr2
      exact .inl (by rw [hr2.1]; rfl)
    · have hr2 := Lib.run_append_grow_string (P := P) w t u ty e i (.int .u8 0) ht hu hi hz ⟨g, 0, none⟩ n cap xs (by rw [hsize]; exact hown.1) (hown.cells (g := g) rfl) s (by omega) (by omega) (by rw [hby]; exact growslice_fits (by omega) (by omega))
      rw [hr] at hr2
      simp only [Result.ok.injEq] at hr2
      exact .inr ⟨w.heap.size, by rw [hr2.1]; rfl, Nat.le_refl _⟩
theorem ownsRow_shape {w : World} {base : Nat} {e : TypeId} {size : Nat} {v : Value} {n : Nat} {xs : List Value} (h : w.ownsRow base e size v n xs) : ∃ ao cp, v = .slice ao n cp := by
  rcases h.2 with ⟨h, h0⟩ | ⟨g, cap, cur, h, _⟩
  · exact ⟨none, 0, by rw [h, h0]⟩
  · exact ⟨_, cap, h⟩
theorem kset (w : World) (b k : Nat) (u : Value) : Kept (fun q => q = b) w (w.setCell ⟨b, k, none⟩ u) := (Kept.refl (fun q => q = b) w).setCell (p := ⟨b, k, none⟩) (fun _ => (rfl : b = b)) u
theorem ownsRow_setCell {w : World} {base b : Nat} {e : TypeId} {v : Value} {n : Nat} {xs : List Value} (h : w.ownsRow base e 1 v n xs) (hne : v.ownBlock ≠ some b) (k : Nat) (u : Value) : (w.setCell ⟨b, k, none⟩ u).ownsRow base e 1 v n xs :=
  owns_kept (S := fun q => q = b) h (kset w b k u) (fun g hg e2 => hne (by rw [hg, e2]))
theorem infoB : (Tryd.prog.info? 5).map (fun i => (i.zero, i.size, i.bytes)) = some (some (.int .u8 0), 1, 1) := by kernel_rfl
theorem set_blk {W : World} {b k : Nat} {cs : Array Value} {t : TypeId} (h : W.heap[b]? = some (.cells cs t (0, 0))) (v : Value) : (W.setCell ⟨b, k, none⟩ v).heap[b]? = some (.cells (cs.setIfInBounds k v) t (0, 0)) := by
  simp [World.setCell, Array.getElem?_modify, h]

abbrev stC (sv ov : Value) (held : List UInt8) (en mt : Bool) (met : Int) : Obj := .cells #[sv, ov, sV held, .bool en, .bool mt, zV met] 78 (0, 0)
/-- A stream at b: F are its blocks. -/
structure StAt (F : Nat → Prop) (w : World) (b : Nat) (T : List (List UInt8)) (out held : List UInt8) (en mt : Bool) (met : Int) (sv ov : Value) : Prop where
  blk : w.heap[b]? = some (stC sv ov held en mt met)
  txr : TxR (fun q => F q ∧ q ≠ b ∧ ov.ownBlock ≠ some q) w sv T
  own : w.ownsRow 0 5 1 ov out.length (bytesV out)
  fb : F b
  fo : ∀ g, ov.ownBlock = some g → F g ∧ g ≠ b
  f3 : ∀ g, F g → 3 ≤ g
/-- What a call on a stream does: its own blocks may turn, and it may get new ones. -/
def Mvd (F : Nat → Prop) (w : World) (F' : Nat → Prop) (w' : World) : Prop := Kept F w w' ∧ (∀ q, F q → F' q) ∧ ∀ q, F' q → F q ∨ w.heap.size ≤ q
theorem Mvd.refl (F : Nat → Prop) (w : World) : Mvd F w F w := ⟨Kept.refl _ _, fun _ h => h, fun _ h => .inl h⟩
theorem Mvd.trans {F F' F'' : Nat → Prop} {a b c : World} (h : Mvd F a F' b) (k : Mvd F' b F'' c) : Mvd F a F'' c :=
  ⟨h.1.trans k.1 (fun i hi e => (h.2.2 i e).resolve_right (by omega)), fun q e => k.2.1 q (h.2.1 q e), fun q e => (k.2.2 q e).elim (h.2.2 q) (fun e2 => .inr (Nat.le_trans h.1.size e2))⟩
theorem Mvd.fresh {F : Nat → Prop} {a b : World} (h : Fresh a b) : Mvd F a F b := ⟨h.mono (fun _ _ e => e.elim), fun _ h => h, fun _ h => .inl h⟩
variable {F : Nat → Prop} {w w' : World} {b : Nat} {T : List (List UInt8)} {out held : List UInt8} {en mt : Bool} {met : Int} {sv ov : Value}
theorem StAt.kept {S : Nat → Prop} (h : StAt F w b T out held en mt met sv ov) (hk : Kept S w w') (hS : ∀ q, F q → ¬ S q) : StAt F w' b T out held en mt met sv ov :=
  ⟨hk.at h.blk (hS b h.fb), h.txr.kept hk (fun q hq => hS q hq.1), owns_kept h.own hk (fun g hg => hS g (h.fo g hg).1), h.fb, h.fo, h.f3⟩
theorem StAt.fresh (h : StAt F w b T out held en mt met sv ov) (hk : Fresh w w') : StAt F w' b T out held en mt met sv ov := h.kept hk (fun _ _ e => e)
theorem StAt.one {k : Nat} {u : Value} {held' : List UInt8} {en' mt' : Bool} {met' : Int} (h : StAt F w b T out held en mt met sv ov)
    (hc : (stC sv ov held' en' mt' met') = .cells ((#[sv, ov, sV held, .bool en, .bool mt, zV met] : Array Value).setIfInBounds k u) 78 (0, 0)) : StAt F (w.setCell ⟨b, k, none⟩ u) b T out held' en' mt' met' sv ov :=
  ⟨by rw [hc]; exact set_blk h.blk u, h.txr.kept (S := fun q => q = b) (kset w b k u) (fun q hq e => hq.2.1 e), ownsRow_setCell h.own (fun e => (h.fo b e).2 rfl) k u, h.fb, h.fo, h.f3⟩
theorem StAt.setHeld (h : StAt F w b T out held en mt met sv ov) (l : List UInt8) : StAt F (w.setCell ⟨b, 2, none⟩ (sV l)) b T out l en mt met sv ov := h.one rfl
theorem StAt.setEnd (h : StAt F w b T out held en mt met sv ov) (x : Bool) : StAt F (w.setCell ⟨b, 3, none⟩ (.bool x)) b T out held x mt met sv ov := h.one rfl
theorem StAt.setMet (h : StAt F w b T out held en mt met sv ov) (x : Bool) : StAt F (w.setCell ⟨b, 4, none⟩ (.bool x)) b T out held en x met sv ov := h.one rfl
theorem StAt.setAt (h : StAt F w b T out held en mt met sv ov) (x : Int) : StAt F (w.setCell ⟨b, 5, none⟩ (zV x)) b T out held en mt x sv ov := h.one rfl
theorem Mvd.store {F : Nat → Prop} {w : World} {b : Nat} (hb : F b) (k : Nat) (u : Value) : Mvd F w F (w.setCell ⟨b, k, none⟩ u) := ⟨(Kept.refl _ w).setCell (p := ⟨b, k, none⟩) (fun _ => hb) u, fun _ h => h, fun _ h => .inl h⟩
theorem StAt.cell (h : StAt F w b T out held en mt met sv ov) : w.cell? ⟨b, 0, none⟩ = some sv ∧ w.cell? ⟨b, 1, none⟩ = some ov ∧ w.cell? ⟨b, 2, none⟩ = some (sV held) ∧ w.cell? ⟨b, 3, none⟩ = some (.bool en) ∧ w.cell? ⟨b, 4, none⟩ = some (.bool mt) ∧ w.cell? ⟨b, 5, none⟩ = some (zV met) :=
  ⟨Lib.cell_of_heap h.blk 0, Lib.cell_of_heap h.blk 1, Lib.cell_of_heap h.blk 2, Lib.cell_of_heap h.blk 3, Lib.cell_of_heap h.blk 4, Lib.cell_of_heap h.blk 5⟩
theorem StAt.free (h : StAt F w b T out held en mt met sv ov) (k : Nat) : w.frozen? ⟨b, k, none⟩ = false := Lib.frozen_of_heap h.blk k
theorem StAt.grow {w1 : World} {v' : Value} {xs : List UInt8} (h : StAt F w b T out held en mt met sv ov) (hg : w.grownBy w1 ov.ownBlock) (hown : w1.ownsRow 0 5 1 v' (out.length + xs.length) (bytesV out ++ bytesV xs)) (hat : v'.ownBlock = ov.ownBlock ∨ ∃ g, v'.ownBlock = some g ∧ w.heap.size ≤ g) :
    ∃ F', StAt F' (w1.setCell ⟨b, 1, none⟩ v') b T (out ++ xs) held en mt met sv v' ∧ Mvd F w F' (w1.setCell ⟨b, 1, none⟩ v') := by
  have hlt := lt_of_heap h.blk
  have hov : ov.ownBlock ≠ some b := fun e => (h.fo b e).2 rfl
  have hb1 : w1.heap[b]? = some (stC sv ov held en mt met) := (hg.block b hlt (fun e => hov e.symm)).trans h.blk
  have hvb : v'.ownBlock ≠ some b := by
    rcases hat with e | ⟨g, e, hge⟩
    · rw [e]; exact hov
    · rw [e]; intro e2; injection e2 with e2; omega
  have hk1 : Kept (fun q => ov.ownBlock = some q) w w1 := (Kept.refl _ w).grown hg (fun q _ e => e)
  have hk2 : Kept F w (w1.setCell ⟨b, 1, none⟩ v') := (hk1.mono (fun q _ e => (h.fo q e).1)).setCell (p := ⟨b, 1, none⟩) (fun _ => h.fb) v'
  refine ⟨fun q => F q ∨ v'.ownBlock = some q, ⟨by simpa using set_blk (k := 1) hb1 v', ?_, ?_, .inl h.fb, fun g hg2 => ⟨.inr hg2, fun e => hvb (by rw [hg2, e])⟩, fun g hg2 => ?_⟩, hk2, fun q hq => .inl hq, fun q hq => ?_⟩
  · have h2 : TxR (fun q => F q ∧ q ≠ b ∧ ov.ownBlock ≠ some q) (w1.setCell ⟨b, 1, none⟩ v') sv T := (h.txr.kept hk1 (fun q hq e => hq.2.2 e)).kept (S := fun q => q = b) (kset w1 b 1 v') (fun q hq e => hq.2.1 e)
    have h3 := h.txr
    obtain ⟨ao, cap, e1, e2, e3, e4, e5, e6⟩ := h2
    refine ⟨ao, cap, e1, e2, e3, e4, e5, fun h0 => ?_⟩
    obtain ⟨q, off, e7, ⟨e8, e9, e10⟩, e11, e12⟩ := e6 h0
    obtain ⟨ao', cap', f1, f2, f3, f4, f5, f6⟩ := h3
    obtain ⟨q', off', f7, _, f9, _⟩ := f6 h0
    have hqq : q = q' := by
      rw [e1] at f1
      injection f1 with g1 g2 g3
      rw [e7, f7] at g1
      injection g1 with g1
      injection g1
    refine ⟨q, off, e7, ⟨.inl e8, e9, fun e => ?_⟩, e11, e12⟩
    rcases hat with k1 | ⟨g, k1, k2⟩
    · exact e10 (k1 ▸ e)
    · rw [k1] at e; injection e with e; omega
  · rw [List.length_append]
    have : bytesV (out ++ xs) = bytesV out ++ bytesV xs := bytesV_append _ _
    rw [this]
    exact ownsRow_setCell hown hvb 1 v'
  · rcases hg2 with hg2 | hg2
    · exact h.f3 g hg2
    · rcases hat with e | ⟨g', e, hge⟩
      · exact h.f3 g (h.fo g (by rw [← e]; exact hg2)).1
      · rw [e] at hg2; injection hg2 with hg2; have := h.f3 b h.fb; omega
  · rcases hq with hq | hq
    · exact .inl hq
    · rcases hat with e | ⟨g', e, hge⟩
      · exact .inl (h.fo q (by rw [← e]; exact hq)).1
      · rw [e] at hq; injection hq with hq; exact .inr (by omega)
end Go.Proofs.YtomeoklhjdgaoaaDoor
