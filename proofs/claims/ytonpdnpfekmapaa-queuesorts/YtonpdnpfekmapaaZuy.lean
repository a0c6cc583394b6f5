/-
  A list of texts, out of its reading; what is put in and what was taken out.
-/
import Derived.Test.YtonpdnpfekmapaaZuw
import Derived.Test.YtonpdnpfekmapaaFrQ
import Derived.Deep.Slices
import Derived.SizedLaws
namespace Go.Proofs.Ytonpdnpfekmapaa.SI
open Go.ChangeShapes Go.WideShapes Go.ChangeAt Go.RowKit Go.Lib Go.Maps

/-- Texts lie in memory. -/
def SkAt (w : World) (v : Value) (l : List ByteArray) : Prop :=
  ∃ ao cap, v = .slice ao l.length cap ∧ l.length ≤ 140737488351232 ∧ l.length ≤ cap ∧ (l ≠ [] → ∃ b off, ao = some ⟨b, off, none⟩ ∧ b < w.heap.size ∧ ∀ i (h : i < l.length), w.cell? ⟨b, off + i, none⟩ = some (.string l[i]))
theorem SkAt.at {w W : World} {v : Value} {l : List ByteArray} (h : SkAt w v l) (hk : Fresh w W) {i : Nat} (hi : i < l.length) : ∃ b off cap, v = .slice (some ⟨b, off, none⟩) l.length cap ∧ W.cell? ⟨b, off + i, none⟩ = some (.string l[i]) := by
  obtain ⟨ao, cap, hv, _, _, hc⟩ := h
  obtain ⟨b, off, ha, hb, hcl⟩ := hc (fun e => by rw [e] at hi; simp at hi)
  exact ⟨b, off, cap, by rw [hv, ha], (hk.cell (p := ⟨b, off + i, none⟩) hb (fun e => e)).trans (hcl i hi)⟩
theorem SkAt.take {w : World} {ao : Option Addr} {cap : Nat} {l : List ByteArray} (h : SkAt w (.slice ao l.length cap) l) {n : Nat} (hn : n ≤ l.length) : SkAt w (.slice ao n cap) (l.take n) := by
  obtain ⟨ao', cap', hv, h1, h2, hc⟩ := h
  injection hv with e1 _ e3
  subst e1
  subst e3
  have hl : (l.take n).length = n := by rw [List.length_take]; omega
  refine ⟨ao, cap, by rw [hl], by omega, by omega, fun hne => ?_⟩
  obtain ⟨b, off, ha, hb, hcl⟩ := hc (fun e => hne (by rw [e]; simp))
  exact ⟨b, off, ha, hb, fun i hi => by rw [List.getElem_take]; exact hcl i (by omega)⟩
theorem Try.cS : Try.prog.cellsOf 9 = 1 := by kernel_rfl
theorem keys_at {H : Type} {enc : TypeId × Value → H} {W : World} {fuel : Nat} {v : Value} {x : DataW H × List MemPlace} (h : DataW.trod enc Try.prog W 0 (fun _ => true) true fuel 38 [v] = some x) (hsz : ∀ es sp, x.1 = .slice es sp → es.length ≤ 140737488351232) :
    ∃ l : List ByteArray, SkAt W v l := by
  rcases Go.Deep.open_slice Try.underlying38 h with ⟨hcs, hx⟩ | ⟨a, len, cap, m, n, D, Pl, hcs, _, hl, hmx, hm, hx, hel⟩
  · exact ⟨[], none, 0, by simpa using hcs, by simp, by simp, fun e => absurd rfl e⟩
  · simp only [if_true] at hm
    subst hm
    rw [Try.cS] at hel
    have hlen : len ≤ 140737488351232 := by
      have := hsz _ _ (by rw [hx])
      rw [List.length_map, List.length_range] at this
      exact this
    have build : ∀ k, k ≤ len → ∃ l : List ByteArray, l.length = k ∧ ∀ i (hi : i < l.length), W.cells? 0 (a.add (i * 1)) 1 = some [.string l[i]] := by
      intro k
      induction k with
      | zero => intro _; exact ⟨[], rfl, fun i hi => by simp at hi⟩
      | succ k ih =>
        intro hk
        obtain ⟨l, hlk, hcl⟩ := ih (by omega)
        obtain ⟨cs', hc, ht⟩ := hel k (by omega)
        obtain ⟨s, e2, _, _⟩ := DataW.trod_string Try.underlying9 ht
        refine ⟨l ++ [s], by simp [hlk], fun i hi => ?_⟩
        by_cases hik : i < l.length
        · rw [List.getElem_append_left hik]
          exact hcl i hik
        · have hie : i = l.length := by simp at hi; omega
          subst hie
          rw [List.getElem_concat_length rfl]
          rw [hlk, hc, e2]
    obtain ⟨l, hll, hcl⟩ := build len (Nat.le_refl _)
    refine ⟨l, some a, m, by rw [hll]; simpa using hcs, by omega, by omega, fun hne => ?_⟩
    have hpos : 0 < l.length := List.length_pos_iff.2 hne
    obtain ⟨b, off, spot⟩ := a
    have h0 := (World.cells?_some (hcl 0 hpos)).2.2 0 (by omega)
    have hspot : spot = none := by simpa [Addr.add] using World.cell?_spot h0
    subst hspot
    have hb0 := World.block_lt_of_cell? W _ h0
    refine ⟨b, off, rfl, by simpa [Addr.add] using hb0, fun i hi => ?_⟩
    have hc := (World.cells?_some (hcl i hi)).2.2
    have c0 := hc 0 (by omega)
    simpa [Addr.add_lit] using c0
theorem bytesS : Try.prog.bytesOf 9 = 16 := by kernel_rfl

/-- Each element is the one of its ticket, of the texts K. -/
def Own (K : List ByteArray) (L : List El) : Prop := ∀ x ∈ L, ∃ h : x.t < K.length, x.k = K[x.t] ∧ x.v = (x.t : Int) ∧ x.a = x.t + 1
/-- Whether the place i was taken out. -/
def seenV (n : Nat) (L : List El) : List Value := (List.range n).map fun i => .bool (decide (∀ x ∈ L, x.t ≠ i))
theorem seen_len (n : Nat) (L : List El) : (seenV n L).length = n := by simp [seenV]
theorem seen_at {n : Nat} {L : List El} {e : El} (he : e ∈ L) (hn : e.t < n) : (seenV n L)[e.t]? = some (.bool false) := by
  unfold seenV
  rw [List.getElem?_map, List.getElem?_range hn]
  simp only [Option.map_some]
  rw [decide_eq_false]
  intro h
  exact h e he rfl
theorem seen_set {n : Nat} {A B : List El} {e : El} (ht : Tn (A ++ e :: B)) : (seenV n (A ++ e :: B)).set e.t (.bool true) = seenV n (A ++ B) := by
  have hm := (tn_mid.1 ht).2
  apply List.ext_getElem?
  intro i
  rw [List.getElem?_set, seen_len]
  unfold seenV
  rw [List.getElem?_map, List.getElem?_map]
  by_cases hi : i < n
  · rw [List.getElem?_range hi]
    simp only [Option.map_some]
    by_cases e1 : e.t = i
    · rw [if_pos e1, if_pos (by omega)]
      congr 2
      rw [eq_comm, decide_eq_true_eq]
      intro x hx
      have := hm x hx
      omega
    · rw [if_neg e1]
      congr 2
      rw [decide_eq_decide]
      constructor
      · intro h x hx
        exact h x (by rcases List.mem_append.1 hx with hx | hx <;> simp [hx])
      · intro h x hx
        rcases List.mem_append.1 hx with hx | hx
        · exact h x (List.mem_append_left _ hx)
        · rcases List.mem_cons.1 hx with rfl | hx
          · exact e1
          · exact h x (List.mem_append_right _ hx)
  · rw [List.getElem?_eq_none (by simpa using hi)]
    simp
    omega
theorem seen_all {n : Nat} {L : List El} (h : ∀ i, i < n → ∃ x ∈ L, x.t = i) : seenV n L = List.replicate n (.bool false) := by
  apply List.ext_getElem?
  intro i
  unfold seenV
  rw [List.getElem?_map, List.getElem?_replicate]
  by_cases hi : i < n
  · rw [List.getElem?_range hi, if_pos hi]
    simp only [Option.map_some]
    congr 2
    rw [decide_eq_false_iff_not]
    intro hall
    obtain ⟨x, hx, e⟩ := h i hi
    exact hall x hx e
  · rw [List.getElem?_eq_none (by simpa using hi), if_neg hi]
    rfl
/-- What the order check looks at, going up. -/
theorem up_keys {p x : El} (h : ord p x < 0) (hp : p.a = p.t + 1) (hx : x.a = x.t + 1) : Op.bytesLess x.k.toList p.k.toList = false ∧ ((x.k.toList == p.k.toList) = false ∨ (x.k = p.k ∧ p.t < x.t)) := by
  unfold ord at h
  by_cases e : kc p.k x.k = 0
  · rw [if_neg (by simpa using e)] at h
    have e1 := kc_eq e
    have := nc_neg.1 h
    exact ⟨by rw [e1, bl_irr], .inr ⟨e1.symm, by omega⟩⟩
  · rw [if_pos e] at h
    unfold kc at h
    split at h
    · rename_i h1
      refine ⟨bl_asym h1, .inl ?_⟩
      rw [beq_eq_false_iff_ne]
      intro e2
      rw [e2, bl_irr] at h1
      cases h1
    · split at h <;> omega
/-- .. and going down. -/
theorem down_keys {p x : El} (h : ord x p < 0) (hp : p.a = p.t + 1) (hx : x.a = x.t + 1) : (Op.bytesLess x.k.toList p.k.toList = true ∧ (x.k.toList == p.k.toList) = false) ∨ (x.k = p.k ∧ x.t < p.t) := by
  unfold ord at h
  by_cases e : kc x.k p.k = 0
  · rw [if_neg (by simpa using e)] at h
    have e1 := kc_eq e
    have := nc_neg.1 h
    exact .inr ⟨e1, by omega⟩
  · rw [if_pos e] at h
    unfold kc at h
    split at h
    · rename_i h1
      refine .inl ⟨h1, ?_⟩
      rw [beq_eq_false_iff_ne]
      intro e2
      rw [e2, bl_irr] at h1
      cases h1
    · split at h <;> omega
end Go.Proofs.Ytonpdnpfekmapaa.SI
