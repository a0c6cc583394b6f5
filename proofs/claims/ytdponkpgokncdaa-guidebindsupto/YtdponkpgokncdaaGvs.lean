/-
  What functions that make lists of numbers leave; lists of rows.
-/
import Derived.Test.YtdponkpgokncdaaVca
import Derived.Lib.SmallJoins
namespace Go.Proofs.Ytdponkpgokncdaa
open Go.ChangeShapes Go.WideShapes Go.ChangeAt Go.RowKit Go.Lib Go.Maps Go.Joins

theorem wrap_i64 {x : Int} (h : I64 x) : wrap64 x = x := by unfold wrap64; obtain ⟨a, b⟩ := h; omega
/-- What a function that makes a list of numbers leaves: the list, in memory of its own, and an error. -/
def Gives (k : IntKind) (e : TypeId) (L : List Int) (E : Int) (w : World) (x : Ending) (w' : World) : Prop :=
  ∃ v, x = .returned (.tuple #[v, zV E]) ∧ w'.ownsRow w.heap.size e 1 v L.length (L.map (Value.int k)) ∧ Fresh w w'
theorem Gives.none (k : IntKind) (e : TypeId) (E : Int) (w : World) : Gives k e [] E w (.returned (.tuple #[.slice none 0 0, zV E])) w := ⟨_, rfl, own_nil _ _ _, Kept.refl _ _⟩

theorem Rk.low {k : IntKind} {p : Nat → Prop} {W : World} {v : Value} {zs : List Int} (h : Rk k p W v zs) : Rk k (fun b => b < W.heap.size) W v zs := by
  obtain ⟨ao, cap, hv, hl, hc, hz⟩ := h
  exact ⟨ao, cap, hv, hl, fun h0 => let ⟨b, off, ha, hp, hb, r⟩ := hc h0; ⟨b, off, ha, hb, hb, r⟩, hz⟩
theorem Gives.row {k : IntKind} {e : TypeId} {L : List Int} {E : Int} {w w' : World} {x : Ending} (h : Gives k e L E w x w') (hl : L.length * kb k ≤ 140737488351232) (hz : ∀ z ∈ L, Fit k z) : ∃ v, x = .returned (.tuple #[v, zV E]) ∧ Rk k (fun b => w.heap.size ≤ b ∧ b < w'.heap.size) w' v L ∧ Fresh w w' := by
  obtain ⟨v, h1, h2, h3⟩ := h
  exact ⟨v, h1, rk_of_own h2 hl hz, h3⟩
theorem map_snoc (l : List Int) (f : Int → Int) {j : Nat} (h : j < l.length) : (l.map f).take (j + 1) = (l.map f).take j ++ [f (l.getD j 0)] := by
  rw [List.take_succ_eq_append_getElem (by simpa using h), List.getElem_map, getD_getElem h]
theorem set_at {P : List Int} {m : Nat} {y : Int} {j : Nat} (hj : P.length = j) : (P ++ List.replicate (m + 1) 0).set j y = (P ++ [y]) ++ List.replicate m 0 := by
  rw [List.set_append_right _ _ (by omega), hj, Nat.sub_self, List.replicate_succ, List.set_cons_zero, List.append_assoc]
  rfl
theorem sized_field {H : Type} {P : Program} {ts : List TypeId} {ds : List (DataW H)} (h : (DataW.weightsEach P ts ds).all (· ≤ reachBytes) = true) {j : Nat} {t : TypeId} {fs : Array Field} {parts : List (DataW H)} (ht : ts[j]? = some t) (hd : ds[j]? = some (.agg parts)) (hu : P.underlying t = some (.struct fs)) :
    (DataW.weightsEach P (fs.toList.map (·.type)) parts).all (· ≤ reachBytes) = true := by
  rw [List.all_eq_true] at h ⊢
  intro x hx
  exact h x (DataW.weights_mem_each ht hd x (by simp only [DataW.weights, hu]; exact hx))
theorem weightsAll_mem {H : Type} {P : Program} {e : TypeId} : ∀ {ds : List (DataW H)} {d : DataW H}, d ∈ ds → ∀ n ∈ d.weights P e, n ∈ DataW.weightsAll P e ds
  | d0 :: ds, d, hd, n, hn => by
    simp only [DataW.weightsAll, List.mem_append]
    rcases List.mem_cons.1 hd with e | e
    · subst e; exact .inl hn
    · exact .inr (weightsAll_mem e n hn)
theorem sized_inner {H : Type} {P : Program} {ts : List TypeId} {ds : List (DataW H)} (h : (DataW.weightsEach P ts ds).all (· ≤ reachBytes) = true) {j : Nat} {t e q : TypeId} {elems spare e' sp' : List (DataW H)}
    (ht : ts[j]? = some t) (hd : ds[j]? = some (.slice elems spare)) (hu : P.underlying t = some (.slice e)) (hu2 : P.underlying e = some (.slice q)) (hx : DataW.slice e' sp' ∈ elems) : (e'.length + sp'.length) * P.bytesOf q ≤ reachBytes := by
  refine of_decide_eq_true (List.all_eq_true.1 h _ (DataW.weights_mem_each ht hd _ ?_))
  simp only [DataW.weights, hu, List.mem_cons, List.mem_append]
  exact Or.inr (Or.inl (weightsAll_mem hx _ (by simp [DataW.weights, hu2])))

/-- v is a list of rows. -/
def LL (k : IntKind) (p : Nat → Prop) (W : World) (v : Value) (L : List (List Int)) : Prop :=
  ∃ ao cap, v = .slice ao L.length cap ∧ L.length * 24 ≤ 140737488351232 ∧
    (L ≠ [] → ∃ b off, ao = some ⟨b, off, none⟩ ∧ p b ∧ b < W.heap.size ∧ ∀ i, i < L.length → ∃ u, W.cell? ⟨b, off + i, none⟩ = some u ∧ Rk k p W u (L.getD i [])) ∧ (ao = none → cap = 0) ∧ L.length ≤ cap
theorem LL.kept {k : IntKind} {p : Nat → Prop} {S : Nat → Prop} {W W' : World} {v : Value} {L : List (List Int)} (h : LL k p W v L) (hk : Kept S W W') (hn : ∀ b, p b → ¬ S b) : LL k p W' v L := by
  obtain ⟨ao, cap, hv, hl, hc, hz⟩ := h
  refine ⟨ao, cap, hv, hl, fun h0 => ?_, hz⟩
  obtain ⟨b, off, ha, hp, hb, hcell⟩ := hc h0
  exact ⟨b, off, ha, hp, Nat.lt_of_lt_of_le hb hk.size, fun i hi => let ⟨u, h1, h2⟩ := hcell i hi; ⟨u, (hk.cell (p := ⟨b, off + i, none⟩) hb (hn b hp)).trans h1, h2.kept hk hn⟩⟩
theorem LL.fresh {k : IntKind} {p : Nat → Prop} {W W' : World} {v : Value} {L : List (List Int)} (h : LL k p W v L) (hk : Fresh W W') : LL k p W' v L := h.kept hk (fun _ _ e => e)
theorem LL.mono {k : IntKind} {p q : Nat → Prop} {W : World} {v : Value} {L : List (List Int)} (h : LL k p W v L) (hpq : ∀ b, p b → q b) : LL k q W v L := by
  obtain ⟨ao, cap, hv, hl, hc, hz⟩ := h
  exact ⟨ao, cap, hv, hl, fun h0 => let ⟨b, off, ha, hp, hb, r⟩ := hc h0; ⟨b, off, ha, hpq b hp, hb, fun i hi => let ⟨u, h1, h2⟩ := r i hi; ⟨u, h1, h2.mono hpq⟩⟩, hz⟩
theorem LL.shape {k : IntKind} {p : Nat → Prop} {W : World} {v : Value} {L : List (List Int)} (h : LL k p W v L) : ∃ ao cap, v = .slice ao L.length cap ∧ (ao = none → cap = 0) ∧ L.length ≤ cap := by obtain ⟨ao, cap, h, _, _, h', h''⟩ := h; exact ⟨ao, cap, h, h', h''⟩
theorem LL.many {k : IntKind} {p : Nat → Prop} {W : World} {v : Value} {L : List (List Int)} (h : LL k p W v L) : L.length * 24 ≤ 140737488351232 := by obtain ⟨_, _, _, h, _⟩ := h; exact h
theorem LL.cells {k : IntKind} {p : Nat → Prop} {w : World} {ao : Option Addr} {n cap : Nat} {L : List (List Int)} (h : LL k p w (.slice ao n cap) L) : L.length = n ∧ n ≤ cap ∧ (0 < n → ∃ b off, ao = some ⟨b, off, none⟩ ∧ p b ∧ b < w.heap.size ∧ ∀ i, i < n → ∃ u, w.cell? ⟨b, off + i, none⟩ = some u ∧ Rk k p w u (L.getD i [])) := by
  obtain ⟨ao', cap', hv, _, hc, h1, h2⟩ := h
  injection hv with e1 e2 e3
  subst e1
  subst e3
  refine ⟨e2.symm, by omega, fun h0 => ?_⟩
  subst e2
  exact hc (fun e => by rw [e] at h0; simp at h0)
theorem Gives.from {k : IntKind} {e : TypeId} {L : List Int} {E : Int} {w wr w' : World} {x : Ending} (h : Gives k e L E wr x w') (hF : Fresh w wr) : Gives k e L E w x w' := by
  obtain ⟨v, h1, h2, h3⟩ := h
  exact ⟨v, h1, own_low h2 hF.size, hF.trans h3 (fun _ _ e => e)⟩
end Go.Proofs.Ytdponkpgokncdaa
