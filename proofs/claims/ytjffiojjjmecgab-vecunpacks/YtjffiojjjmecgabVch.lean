/-
  A Matrix, out of its reading: a list, its columns, and rows that it is asked with.
-/
import Derived.Test.YtjffiojjjmecgabVce
import Derived.Lib.SmallJoins
namespace Go.Proofs.Ytjffiojjjmecgab
open Go.ChangeShapes Go.WideShapes Go.ChangeAt Go.RowKit Go.Lib Go.Maps Go.Joins

theorem sized_field {H : Type} {P : Program} {ts : List TypeId} {ds : List (DataW H)} (h : (DataW.weightsEach P ts ds).all (· ≤ reachBytes) = true) {j : Nat} {t : TypeId} {fs : Array Field} {parts : List (DataW H)} (ht : ts[j]? = some t) (hd : ds[j]? = some (.agg parts)) (hu : P.underlying t = some (.struct fs)) :
    (DataW.weightsEach P (fs.toList.map (·.type)) parts).all (· ≤ reachBytes) = true := by
  rw [List.all_eq_true] at h ⊢
  intro x hx
  exact h x (DataW.weights_mem_each ht hd x (by simp only [DataW.weights, hu]; exact hx))
theorem weightsAll_mem {H : Type} {P : Program} {e : TypeId} : ∀ {ds : List (DataW H)} {d : DataW H}, d ∈ ds → ∀ n ∈ d.weights P e, n ∈ DataW.weightsAll P e ds
  | d0 :: ds, d, hd, n, hn => by
    simp only [DataW.weightsAll, List.mem_append]
    rcases List.mem_cons.1 hd with e | e
    · subst e; exact .inl hn
    · exact .inr (weightsAll_mem e n hn)
theorem sized_inner {H : Type} {P : Program} {ts : List TypeId} {ds : List (DataW H)} (h : (DataW.weightsEach P ts ds).all (· ≤ reachBytes) = true) {j : Nat} {t e q : TypeId} {elems spare e' sp' : List (DataW H)}
    (ht : ts[j]? = some t) (hd : ds[j]? = some (.slice elems spare)) (hu : P.underlying t = some (.slice e)) (hu2 : P.underlying e = some (.slice q)) (hx : DataW.slice e' sp' ∈ elems) : (e'.length + sp'.length) * P.bytesOf q ≤ reachBytes := by
  refine of_decide_eq_true (List.all_eq_true.1 h _ (DataW.weights_mem_each ht hd _ ?_))
  simp only [DataW.weights, hu, List.mem_cons, List.mem_append]
  exact Or.inr (Or.inl (weightsAll_mem hx _ (by simp [DataW.weights, hu2])))

/-- v is a list of rows. -/
def LL (k : IntKind) (p : Nat → Prop) (W : World) (v : Value) (L : List (List Int)) : Prop :=
  ∃ ao cap, v = .slice ao L.length cap ∧ L.length * 24 ≤ 140737488351232 ∧
    (L ≠ [] → ∃ b off, ao = some ⟨b, off, none⟩ ∧ p b ∧ b < W.heap.size ∧ ∀ i, i < L.length → ∃ u, W.cell? ⟨b, off + i, none⟩ = some u ∧ Rk k p W u (L.getD i [])) ∧ (ao = none → cap = 0) ∧ L.length ≤ cap
theorem LL.kept {k : IntKind} {p : Nat → Prop} {S : Nat → Prop} {W W' : World} {v : Value} {L : List (List Int)} (h : LL k p W v L) (hk : Kept S W W') (hn : ∀ b, p b → ¬ S b) : LL k p W' v L := by
  obtain ⟨ao, cap, hv, hl, hc, hz⟩ := h
  refine ⟨ao, cap, hv, hl, fun h0 => ?_, hz⟩
  obtain ⟨b, off, ha, hp, hb, hcell⟩ := hc h0
  exact ⟨b, off, ha, hp, Nat.lt_of_lt_of_le hb hk.size, fun i hi => let ⟨u, h1, h2⟩ := hcell i hi; ⟨u, (hk.cell (p := ⟨b, off + i, none⟩) hb (hn b hp)).trans h1, h2.kept hk hn⟩⟩
theorem LL.fresh {k : IntKind} {p : Nat → Prop} {W W' : World} {v : Value} {L : List (List Int)} (h : LL k p W v L) (hk : Fresh W W') : LL k p W' v L := h.kept hk (fun _ _ e => e)
theorem LL.mono {k : IntKind} {p q : Nat → Prop} {W : World} {v : Value} {L : List (List Int)} (h : LL k p W v L) (hpq : ∀ b, p b → q b) : LL k q W v L := by
  obtain ⟨ao, cap, hv, hl, hc, hz⟩ := h
  exact ⟨ao, cap, hv, hl, fun h0 => let ⟨b, off, ha, hp, hb, r⟩ := hc h0; ⟨b, off, ha, hpq b hp, hb, fun i hi => let ⟨u, h1, h2⟩ := r i hi; ⟨u, h1, h2.mono hpq⟩⟩, hz⟩
theorem LL.shape {k : IntKind} {p : Nat → Prop} {W : World} {v : Value} {L : List (List Int)} (h : LL k p W v L) : ∃ ao cap, v = .slice ao L.length cap ∧ (ao = none → cap = 0) ∧ L.length ≤ cap := by obtain ⟨ao, cap, h, _, _, h', h''⟩ := h; exact ⟨ao, cap, h, h', h''⟩
theorem LL.many {k : IntKind} {p : Nat → Prop} {W : World} {v : Value} {L : List (List Int)} (h : LL k p W v L) : L.length * 24 ≤ 140737488351232 := by obtain ⟨_, _, _, h, _⟩ := h; exact h
theorem LL.cells {k : IntKind} {p : Nat → Prop} {w : World} {ao : Option Addr} {n cap : Nat} {L : List (List Int)} (h : LL k p w (.slice ao n cap) L) : L.length = n ∧ n ≤ cap ∧ (0 < n → ∃ b off, ao = some ⟨b, off, none⟩ ∧ p b ∧ b < w.heap.size ∧ ∀ i, i < n → ∃ u, w.cell? ⟨b, off + i, none⟩ = some u ∧ Rk k p w u (L.getD i [])) := by
  obtain ⟨ao', cap', hv, _, hc, h1, h2⟩ := h
  injection hv with e1 e2 e3
  subst e1
  subst e3
  refine ⟨e2.symm, by omega, fun h0 => ?_⟩
  subst e2
  exact hc (fun e => by rw [e] at h0; simp at h0)

theorem Try.cLL : Try.prog.cellsOf 22 = 1 := by kernel_rfl
theorem Try.b8 : Try.prog.bytesOf 38 = 1 := by kernel_rfl
theorem Try.bLL : Try.prog.bytesOf 22 = 24 := by kernel_rfl
/-- A list of rows, out of its reading. -/
theorem ll_of {H : Type} {enc : TypeId × Value → H} {W : World} {fuel : Nat} {v : Value} {x : DataW H × List MemPlace} (h : DataW.trod enc Try.prog W 0 (fun _ => true) true fuel 23 [v] = some x)
    (hsz : ∀ es sp, x.1 = .slice es sp → es.length * 24 ≤ 140737488351232 ∧ ∀ e' sp', DataW.slice e' sp' ∈ es → e'.length ≤ 140737488351232) : ∃ L : List (List Int), LL .i8 (fun b => b < W.heap.size) W v L := by
  rcases Go.Deep.open_slice Try.underlying23 h with ⟨hcs, hx⟩ | ⟨a, len, cap, m, n, D, Pl, hcs, _, hl, hmx, hm, hx, hel⟩
  · exact ⟨[], none, 0, by simpa using hcs, by simp, fun h0 => absurd rfl h0, fun _ => rfl, Nat.zero_le _⟩
  · simp only [if_true] at hm
    subst hm
    rw [Try.cLL] at hel
    obtain ⟨hs1, hs2⟩ := hsz _ _ (by rw [hx])
    have hdl : ((List.range len).map D).length = len := by simp
    have build : ∀ q, q ≤ len → ∃ L : List (List Int), L.length = q ∧ ∀ i, i < q → ∃ u, W.cells? 0 (a.add (i * 1)) 1 = some [u] ∧ Rk .i8 (fun b => b < W.heap.size) W u (L.getD i []) := by
      intro q
      induction q with
      | zero => intro _; exact ⟨[], rfl, fun i hi => by omega⟩
      | succ q ih =>
        intro hq
        obtain ⟨L, hL, hLc⟩ := ih (by omega)
        obtain ⟨cs', hc, ht⟩ := hel q (by omega)
        have hlen : cs'.length = 1 := (World.cells?_some hc).2.1
        obtain ⟨u, rfl⟩ := List.length_eq_one_iff.1 hlen
        obtain ⟨zs, hz, _⟩ := row_of ty8 ht (fun es sp e => by
          have := hs2 es sp (by rw [List.mem_map]; exact ⟨q, by simp; omega, e⟩)
          simp [kb]; exact this)
        refine ⟨L ++ [zs], by simp [hL], fun i hi => ?_⟩
        rcases Nat.lt_or_ge i q with e | e
        · obtain ⟨u', h1, h2⟩ := hLc i e
          refine ⟨u', h1, ?_⟩
          rwa [List.getD_eq_getElem?_getD, List.getElem?_append_left (by omega), ← List.getD_eq_getElem?_getD]
        · obtain rfl : i = q := by omega
          refine ⟨u, hc, ?_⟩
          rw [List.getD_eq_getElem?_getD, List.getElem?_append_right (by omega), hL, Nat.sub_self]
          exact hz
    obtain ⟨L, hL, hLc⟩ := build len (Nat.le_refl _)
    have hv : v = .slice (some a) len m := by simpa using hcs
    refine ⟨L, some a, m, by rw [hL]; exact hv, by rw [hL]; simpa using hs1, fun h0 => ?_, fun e => (by cases e), by omega⟩
    have hpos : 0 < len := by rw [← hL]; exact List.length_pos_iff.2 h0
    obtain ⟨b, off, spot⟩ := a
    obtain ⟨u0, hc0, _⟩ := hLc 0 hpos
    have h0' := (World.cells?_some hc0).2.2 0 (by omega)
    have hspot : spot = none := by simpa [Addr.add] using World.cell?_spot h0'
    subst hspot
    have hb0 := World.block_lt_of_cell? W _ h0'
    refine ⟨b, off, rfl, by simpa [Addr.add] using hb0, by simpa [Addr.add] using hb0, fun i hi => ?_⟩
    obtain ⟨u, hc, hr⟩ := hLc i (by omega)
    have hc := (World.cells?_some hc).2.2 0 (by omega)
    simp only [Addr.add_lit] at hc
    exact ⟨u, by simpa using hc, hr⟩
/-- A Matrix by value: its three parts. -/
theorem matrix_of {H : Type} {enc : TypeId × Value → H} {W : World} {r : Reach} {b0 : Nat} {v : Value} {d : DataW H} {p : List MemPlace} {ts : List TypeId} {ds : List (DataW H)} {j : Nat} (hv : Value.okWide Try.prog W r b0 25 v) (h : DataW.Trod enc Try.prog W 0 (fun _ => true) true 25 v d p)
    (hsz : (DataW.weightsEach Try.prog ts ds).all (· ≤ reachBytes) = true) (ht : ts[j]? = some 25) (hd : ds[j]? = some d) :
    ∃ (wv xv : Value) (c : Int) (zs : List Int) (L : List (List Int)), v = .agg #[wv, zV c, xv] ∧ I64 c ∧ Rk .i8 (fun b => b < W.heap.size) W wv zs ∧ LL .i8 (fun b => b < W.heap.size) W xv L := by
  obtain ⟨v0, v1, v2, y0, y1, y2, n, rfl, rfl, rfl, q0, q1, q2⟩ := open_agg3 Try.underlying25 (by kernel_rfl) (by kernel_rfl) hv h
  have hf := sized_field hsz ht hd Try.underlying25
  obtain ⟨c, e1, _, w1⟩ := DataW.trod_int Try.underlying3 q1
  obtain ⟨zs, hz, _⟩ := row_of ty8 q0 (fun es sp e => by
    have := sized_slice hf (j := 0) (t := 22) (e := 38) rfl (by rw [e]; rfl) Try.underlying22
    rw [Try.b8] at this
    simp only [reachBytes] at this
    simp [kb]
    omega)
  obtain ⟨L, hL⟩ := ll_of q2 (fun es sp e => by
    have := sized_slice hf (j := 2) (t := 23) (e := 22) rfl (by rw [e]; rfl) Try.underlying23
    rw [Try.bLL] at this
    simp only [reachBytes] at this
    refine ⟨by omega, fun e' sp' hm => ?_⟩
    have := sized_inner hf (j := 2) (t := 23) (e := 22) (q := 38) rfl (by rw [e]; rfl) Try.underlying23 Try.underlying22 hm
    rw [Try.b8] at this
    simp only [reachBytes] at this
    omega)
  simp only [List.cons.injEq, and_true] at e1
  exact ⟨v0, v2, c, zs, L, by rw [e1], i64_of w1, hz, hL⟩
end Go.Proofs.Ytjffiojjjmecgab
