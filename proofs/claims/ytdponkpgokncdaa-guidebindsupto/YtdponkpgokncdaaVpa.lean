/-
  A vocabulary that is handed in, out of its reading.
-/
import Derived.Test.YtdponkpgokncdaaVowG
namespace Go.Proofs.Ytdponkpgokncdaa
open Go.ChangeShapes Go.WideShapes Go.ChangeAt Go.RowKit Go.Lib Go.Maps

theorem list3 {α : Type} {l : List α} (h : l.length = 3) : ∃ a b c, l = [a, b, c] := by
  match l, h with
  | [a, b, c], _ => exact ⟨a, b, c, rfl⟩
theorem list2 {α : Type} {l : List α} (h : l.length = 2) : ∃ a b, l = [a, b] := by
  match l, h with
  | [a, b], _ => exact ⟨a, b, rfl⟩
theorem arr2 {α : Type} {l : Array α} (h : l.size = 2) : ∃ a b, l = #[a, b] := by
  obtain ⟨a, b, e⟩ := list2 (l := l.toList) (by simpa using h)
  exact ⟨a, b, by apply Array.ext'; rw [e]⟩
theorem Try.cMg : Try.prog.cellsOf 82 = 3 := by kernel_rfl
theorem Try.cI : Try.prog.cellsOf 3 = 1 := by kernel_rfl
theorem Try.cS : Try.prog.cellsOf 9 = 1 := by kernel_rfl
theorem Try.bMg : Try.prog.bytesOf 82 = 24 := by kernel_rfl
theorem Try.bStr : Try.prog.bytesOf 9 = 16 := by kernel_rfl
theorem Try.bInt : Try.prog.bytesOf 3 = 8 := by kernel_rfl
theorem mg_parts {H : Type} {enc : TypeId × Value → H} {W : World} {fuel : Nat} {cs : List Value} {x : DataW H × List MemPlace} (h : DataW.trod enc Try.prog W 0 (fun _ => true) true fuel 82 cs = some x) :
    ∃ o : Mg, cs = [zV o.l, zV o.r, zV o.o] ∧ I64 o.l ∧ I64 o.r ∧ I64 o.o := by
  obtain ⟨xs, m, _, hxe, hl, hx, hfs⟩ := DataW.trod_struct Try.underlying82 h
  rw [Try.cMg] at hl
  obtain ⟨c0, c1, c2, rfl⟩ := list3 hl
  obtain ⟨x0, x1, x2, rfl⟩ := list3 (show xs.length = 3 from hx)
  have h0 : DataW.trod enc Try.prog W 0 (fun _ => true) true m 3 [c0] = some x0 := by simpa [Try.cI] using hfs 0 _ rfl
  have h1 : DataW.trod enc Try.prog W 0 (fun _ => true) true m 3 [c1] = some x1 := by simpa [Try.cI] using hfs 1 _ rfl
  have h2 : DataW.trod enc Try.prog W 0 (fun _ => true) true m 3 [c2] = some x2 := by simpa [Try.cI] using hfs 2 _ rfl
  obtain ⟨k, e0, rfl, w0⟩ := DataW.trod_int Try.underlying3 h0
  obtain ⟨n, e1, rfl, w1⟩ := DataW.trod_int Try.underlying3 h1
  obtain ⟨b, e2, rfl, w2⟩ := DataW.trod_int Try.underlying3 h2
  simp only [List.cons.injEq, and_true] at e0 e1 e2
  subst e0 e1 e2
  exact ⟨⟨k, n, b⟩, rfl, i64_of w0, i64_of w1, i64_of w2⟩
theorem mgr_at {H : Type} {enc : TypeId × Value → H} {W : World} {fuel : Nat} {v : Value} {x : DataW H × List MemPlace} (h : DataW.trod enc Try.prog W 0 (fun _ => true) true fuel 47 [v] = some x) (hsz : ∀ es sp, x.1 = .slice es sp → es.length * 24 ≤ 140737488351232) :
    ∃ M : List Mg, MgR (fun b => b < W.heap.size) W v M ∧ M.length * 24 ≤ 140737488351232 := by
  rcases Go.Deep.open_slice Try.underlying47 h with ⟨hcs, hx⟩ | ⟨a, len, cap, m, n, D, Pl, hcs, _, hl, hmx, hm, hx, hel⟩
  · exact ⟨[], ⟨none, 0, by simpa using hcs, fun _ => rfl, Nat.le_refl _, fun i hi => absurd hi (Nat.not_lt_zero _), fun e => absurd e (Nat.lt_irrefl _)⟩, by simp⟩
  · simp only [if_true] at hm
    subst hm
    rw [Try.cMg] at hel
    have hlen : len * 24 ≤ 140737488351232 := by
      have := hsz _ _ (by rw [hx])
      rw [List.length_map, List.length_range] at this
      exact this
    have build : ∀ k, k ≤ len → ∃ l : List Mg, l.length = k ∧ (∀ o ∈ l, I64 o.l ∧ I64 o.r ∧ I64 o.o) ∧ ∀ i (hi : i < l.length), W.cells? 0 (a.add (i * 3)) 3 = some [zV l[i].l, zV l[i].r, zV l[i].o] := by
      intro k
      induction k with
      | zero => intro _; exact ⟨[], rfl, fun o ho => by simp at ho, fun i hi => by simp at hi⟩
      | succ k ih =>
        intro hk
        obtain ⟨l, hlk, hwf, hcl⟩ := ih (by omega)
        obtain ⟨cs', hc, ht⟩ := hel k (by omega)
        obtain ⟨o, hcs', ho⟩ := mg_parts ht
        refine ⟨l ++ [o], by simp [hlk], fun p hp => ?_, fun i hi => ?_⟩
        · rcases List.mem_append.1 hp with hp | hp
          · exact hwf p hp
          · rw [List.mem_singleton.1 hp]; exact ho
        · by_cases hik : i < l.length
          · rw [List.getElem_append_left hik]
            exact hcl i hik
          · have hie : i = l.length := by simp at hi; omega
            subst hie
            rw [List.getElem_concat_length rfl]
            rw [hlk, hc, hcs']
    obtain ⟨l, hll, hwf, hcl⟩ := build len (Nat.le_refl _)
    have hgm : ∀ i (hi : i < l.length), gM l i = l[i] := fun i hi => by rw [gM, List.getD_eq_getElem?_getD, List.getElem?_eq_getElem hi]; rfl
    refine ⟨l, ⟨some a, m, by rw [hll]; simpa using hcs, fun e => (by cases e), by omega, fun i hi => ?_, fun hpos => ?_⟩, by omega⟩
    · rw [hgm i hi]; exact hwf _ (List.getElem_mem hi)
    · obtain ⟨b, off, spot⟩ := a
      have h0 := (World.cells?_some (hcl 0 hpos)).2.2 0 (by omega)
      have hspot : spot = none := by simpa [Addr.add] using World.cell?_spot h0
      subst hspot
      have hb0 := World.block_lt_of_cell? W _ h0
      refine ⟨b, off, rfl, by simpa [Addr.add] using hb0, by simpa [Addr.add] using hb0, fun i hi => ?_⟩
      have hc := (World.cells?_some (hcl i hi)).2.2
      have c0 := hc 0 (by omega)
      have c1 := hc 1 (by omega)
      have c2 := hc 2 (by omega)
      simp only [Addr.add_lit] at c0 c1 c2
      rw [hgm i hi]
      exact ⟨c0, c1, c2⟩
theorem txr_at {H : Type} {enc : TypeId × Value → H} {W : World} {fuel : Nat} {v : Value} {x : DataW H × List MemPlace} (h : DataW.trod enc Try.prog W 0 (fun _ => true) true fuel 46 [v] = some x) (hsz : ∀ es sp, x.1 = .slice es sp → es.length * 16 ≤ 140737488351232) :
    ∃ T : List (List UInt8), TxR (fun b => b < W.heap.size) W v T := by
  rcases Go.Deep.open_slice Try.underlying46 h with ⟨hcs, hx⟩ | ⟨a, len, cap, m, n, D, Pl, hcs, _, hl, hmx, hm, hx, hel⟩
  · exact ⟨[], none, 0, by simpa using hcs, fun _ => rfl, Nat.le_refl _, fun i hi => absurd hi (Nat.not_lt_zero _), by simp, fun e => absurd e (Nat.lt_irrefl _)⟩
  · simp only [if_true] at hm
    subst hm
    rw [Try.cS] at hel
    have hlen : len * 16 ≤ 140737488351232 := by
      have := hsz _ _ (by rw [hx])
      rw [List.length_map, List.length_range] at this
      exact this
    have build : ∀ k, k ≤ len → ∃ l : List (List UInt8), l.length = k ∧ (∀ s ∈ l, s.length ≤ maxLen) ∧ ∀ i (hi : i < l.length), W.cells? 0 (a.add (i * 1)) 1 = some [sV l[i]] := by
      intro k
      induction k with
      | zero => intro _; exact ⟨[], rfl, fun o ho => by simp at ho, fun i hi => by simp at hi⟩
      | succ k ih =>
        intro hk
        obtain ⟨l, hlk, hwf, hcl⟩ := ih (by omega)
        obtain ⟨cs', hc, ht⟩ := hel k (by omega)
        obtain ⟨s, e2, _, hss⟩ := DataW.trod_string Try.underlying9 ht
        refine ⟨l ++ [s.data.toList], by simp [hlk], fun p hp => ?_, fun i hi => ?_⟩
        · rcases List.mem_append.1 hp with hp | hp
          · exact hwf p hp
          · rw [List.mem_singleton.1 hp]
            show s.data.toList.length ≤ maxLen
            rw [Array.length_toList]
            exact hss
        · by_cases hik : i < l.length
          · rw [List.getElem_append_left hik]
            exact hcl i hik
          · have hie : i = l.length := by simp at hi; omega
            subst hie
            rw [List.getElem_concat_length rfl]
            rw [hlk, hc, e2]
    obtain ⟨l, hll, hwf, hcl⟩ := build len (Nat.le_refl _)
    have hgm : ∀ i (hi : i < l.length), gT l i = l[i] := fun i hi => by rw [gT, List.getD_eq_getElem?_getD, List.getElem?_eq_getElem hi]; rfl
    refine ⟨l, some a, m, by rw [hll]; simpa using hcs, fun e => (by cases e), by omega, fun i hi => ?_, by omega, fun hpos => ?_⟩
    · rw [hgm i hi]; exact hwf _ (List.getElem_mem hi)
    · obtain ⟨b, off, spot⟩ := a
      have h0 := (World.cells?_some (hcl 0 hpos)).2.2 0 (by omega)
      have hspot : spot = none := by simpa [Addr.add] using World.cell?_spot h0
      subst hspot
      have hb0 := World.block_lt_of_cell? W _ h0
      refine ⟨b, off, rfl, by simpa [Addr.add] using hb0, by simpa [Addr.add] using hb0, fun i hi => ?_⟩
      have hc := (World.cells?_some (hcl i hi)).2.2
      have c0 := hc 0 (by omega)
      rw [hgm i hi]
      simpa [Addr.add_lit] using c0
set_option maxRecDepth 100000 in
/-- A vocabulary that is handed in. -/
theorem voc_of {H : Type} {enc : TypeId × Value → H} {W : World} {r : Reach} {b0 : Nat} {v : Value} {d : DataW H} {p : List MemPlace} {ts : List TypeId} {ds : List (DataW H)} {j : Nat} (hv : Value.okWide Try.prog W r b0 49 v) (h : DataW.Trod enc Try.prog W 0 (fun _ => true) true 49 v d p)
    (hsz : (DataW.weightsEach Try.prog ts ds).all (· ≤ reachBytes) = true) (ht : ts[j]? = some 49) (hd : ds[j]? = some d) :
    ∃ tv mv T M, v = .agg #[tv, mv] ∧ TxR (fun b => b < W.heap.size) W tv T ∧ MgR (fun b => b < W.heap.size) W mv M ∧ M.length * 24 ≤ 140737488351232 := by
  obtain ⟨cs, rfl, hcs⟩ := okWide_struct Try.underlying49 hv
  obtain ⟨v0, v1, rfl⟩ := arr2 (hcs.trans (by kernel_rfl))
  obtain ⟨fuel, hf⟩ := h
  obtain ⟨xs, n, _, hx, hl, hlen, hfs⟩ := DataW.trod_struct Try.underlying49 hf
  obtain ⟨y0, y1, rfl⟩ := list2 (l := xs) hlen
  simp only [Prod.mk.injEq, List.map_cons, List.map_nil] at hx
  obtain ⟨rfl, rfl⟩ := hx
  have hg := sized_field hsz ht hd Try.underlying49
  have c8 : Try.prog.cellsOf 46 = 1 := by kernel_rfl
  have ci : Try.prog.cellsOf 47 = 1 := by kernel_rfl
  have q0 : DataW.trod enc Try.prog W 0 (fun _ => true) true n 46 [v0] = some y0 := by simpa [Value.cells, c8] using hfs 0 _ rfl
  have q1 : DataW.trod enc Try.prog W 0 (fun _ => true) true n 47 [v1] = some y1 := by simpa [Value.cells, ci] using hfs 1 _ rfl
  obtain ⟨T, hT⟩ := txr_at q0 (fun es sp e => by
    have := sized_slice hg (j := 0) (t := 46) (e := 9) rfl (by rw [e]; rfl) Try.underlying46
    rw [Try.bStr] at this
    simp only [reachBytes] at this
    omega)
  obtain ⟨M, hM, hM24⟩ := mgr_at q1 (fun es sp e => by
    have := sized_slice hg (j := 1) (t := 47) (e := 82) rfl (by rw [e]; rfl) Try.underlying47
    rw [Try.bMg] at this
    simp only [reachBytes] at this
    omega)
  exact ⟨v0, v1, T, M, rfl, hT, hM, hM24⟩
end Go.Proofs.Ytdponkpgokncdaa
