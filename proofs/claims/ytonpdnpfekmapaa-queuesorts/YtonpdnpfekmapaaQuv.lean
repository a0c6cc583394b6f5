/-
  A script of Ops, out of its reading; two elements come out in their order.
-/
import Derived.Test.YtonpdnpfekmapaaQuu
import Derived.Test.YtonpdnpfekmapaaFrQ
import Derived.Deep.Slices
import Derived.SizedLaws
namespace Go.Proofs.Ytonpdnpfekmapaa
open Go.ChangeShapes Go.WideShapes Go.ChangeAt Go.RowKit Go.Lib Go.Maps

/-- An Op. -/
structure O4 where
  k : Int
  y : Int
  v : ByteArray
  t : Int
/-- The Ops of a script lie in memory. -/
def ScrAt (w : World) (v : Value) (l : List O4) : Prop :=
  ∃ ao cap, v = .slice ao l.length cap ∧ l.length ≤ 140737488351232 ∧ (∀ o ∈ l, (Lit.int .i64 o.k).wf = true ∧ (Lit.int .i64 o.t).wf = true) ∧ (l ≠ [] → ∃ b off, ao = some ⟨b, off, none⟩ ∧ b < w.heap.size ∧ ∀ i (h : i < l.length),
    w.cell? ⟨b, off + i * 4, none⟩ = some (.int .i64 l[i].k) ∧ w.cell? ⟨b, off + i * 4 + 1, none⟩ = some (.int .i64 l[i].y) ∧ w.cell? ⟨b, off + i * 4 + 2, none⟩ = some (.string l[i].v) ∧ w.cell? ⟨b, off + i * 4 + 3, none⟩ = some (.int .i64 l[i].t))
theorem ScrAt.at {w W : World} {v : Value} {l : List O4} (h : ScrAt w v l) (hk : Fresh w W) {i : Nat} (hi : i < l.length) : ∃ b off cap, v = .slice (some ⟨b, off, none⟩) l.length cap ∧
    W.cell? ⟨b, off + i * 4, none⟩ = some (.int .i64 l[i].k) ∧ W.cell? ⟨b, off + i * 4 + 1, none⟩ = some (.int .i64 l[i].y) ∧ W.cell? ⟨b, off + i * 4 + 2, none⟩ = some (.string l[i].v) ∧ W.cell? ⟨b, off + i * 4 + 3, none⟩ = some (.int .i64 l[i].t) := by
  obtain ⟨ao, cap, hv, _, _, hc⟩ := h
  obtain ⟨b, off, ha, hb, hcl⟩ := hc (fun e => by rw [e] at hi; simp at hi)
  obtain ⟨c0, c1, c2, c3⟩ := hcl i hi
  have e : ∀ j, W.cell? ⟨b, j, none⟩ = w.cell? ⟨b, j, none⟩ := fun j => hk.cell (p := ⟨b, j, none⟩) hb (fun e => e)
  exact ⟨b, off, cap, by rw [hv, ha], (e _).trans c0, (e _).trans c1, (e _).trans c2, (e _).trans c3⟩
theorem ScrAt.shape {w : World} {v : Value} {l : List O4} (h : ScrAt w v l) : ∃ ao cap, v = .slice ao l.length cap := let ⟨ao, cap, hv, _⟩ := h; ⟨ao, cap, hv⟩

theorem list4 {α : Type} {l : List α} (h : l.length = 4) : ∃ a b c d, l = [a, b, c, d] := by
  match l, h with
  | [a, b, c, d], _ => exact ⟨a, b, c, d, rfl⟩
theorem Try.cOp : Try.prog.cellsOf 31 = 4 := by kernel_rfl
theorem Try.cI : Try.prog.cellsOf 3 = 1 := by kernel_rfl
theorem Try.cL : Try.prog.cellsOf 2 = 1 := by kernel_rfl
theorem Try.cS : Try.prog.cellsOf 9 = 1 := by kernel_rfl
theorem op_parts {H : Type} {enc : TypeId × Value → H} {W : World} {fuel : Nat} {cs : List Value} {x : DataW H × List MemPlace} (h : DataW.trod enc Try.prog W 0 (fun _ => true) true fuel 31 cs = some x) :
    ∃ o : O4, cs = [.int .i64 o.k, .int .i64 o.y, .string o.v, .int .i64 o.t] ∧ (Lit.int .i64 o.k).wf = true ∧ (Lit.int .i64 o.t).wf = true := by
  obtain ⟨xs, m, _, hxe, hl, hx, hfs⟩ := DataW.trod_struct Try.underlying31 h
  rw [Try.cOp] at hl
  obtain ⟨c0, c1, c2, c3, rfl⟩ := list4 hl
  obtain ⟨x0, x1, x2, x3, rfl⟩ := list4 (show xs.length = 4 from hx)
  have h0 : DataW.trod enc Try.prog W 0 (fun _ => true) true m 3 [c0] = some x0 := by simpa [Try.cI] using hfs 0 _ rfl
  have h1 : DataW.trod enc Try.prog W 0 (fun _ => true) true m 2 [c1] = some x1 := by simpa [Try.cL] using hfs 1 _ rfl
  have h2 : DataW.trod enc Try.prog W 0 (fun _ => true) true m 9 [c2] = some x2 := by simpa [Try.cS] using hfs 2 _ rfl
  have h3 : DataW.trod enc Try.prog W 0 (fun _ => true) true m 3 [c3] = some x3 := by simpa [Try.cI] using hfs 3 _ rfl
  obtain ⟨k, e0, rfl, w0⟩ := DataW.trod_int Try.underlying3 h0
  obtain ⟨y, e1, rfl, w1⟩ := DataW.trod_int Try.underlying2 h1
  obtain ⟨s, e2, rfl, w2⟩ := DataW.trod_string Try.underlying9 h2
  obtain ⟨t, e3, rfl, w3⟩ := DataW.trod_int Try.underlying3 h3
  simp only [List.cons.injEq, and_true] at e0 e1 e2 e3
  subst e0 e1 e2 e3
  exact ⟨⟨k, y, s, t⟩, rfl, w0, w3⟩
theorem script_at {H : Type} {enc : TypeId × Value → H} {W : World} {fuel : Nat} {v : Value} {x : DataW H × List MemPlace} (h : DataW.trod enc Try.prog W 0 (fun _ => true) true fuel 22 [v] = some x) (hsz : ∀ es sp, x.1 = .slice es sp → es.length ≤ 140737488351232) :
    ∃ l : List O4, ScrAt W v l := by
  rcases Go.Deep.open_slice Try.underlying22 h with ⟨hcs, hx⟩ | ⟨a, len, cap, m, n, D, Pl, hcs, _, hl, hmx, hm, hx, hel⟩
  · exact ⟨[], none, 0, by simpa using hcs, by simp, fun o ho => by simp at ho, fun e => absurd rfl e⟩
  · simp only [if_true] at hm
    subst hm
    rw [Try.cOp] at hel
    have hlen : len ≤ 140737488351232 := by
      have := hsz _ _ (by rw [hx])
      rw [List.length_map, List.length_range] at this
      exact this
    have build : ∀ k, k ≤ len → ∃ l : List O4, l.length = k ∧ (∀ o ∈ l, (Lit.int .i64 o.k).wf = true ∧ (Lit.int .i64 o.t).wf = true) ∧ ∀ i (hi : i < l.length), W.cells? 0 (a.add (i * 4)) 4 = some [.int .i64 l[i].k, .int .i64 l[i].y, .string l[i].v, .int .i64 l[i].t] := by
      intro k
      induction k with
      | zero => intro _; exact ⟨[], rfl, fun o ho => by simp at ho, fun i hi => by simp at hi⟩
      | succ k ih =>
        intro hk
        obtain ⟨l, hlk, hwf, hcl⟩ := ih (by omega)
        obtain ⟨cs', hc, ht⟩ := hel k (by omega)
        obtain ⟨o, hcs', ho1, ho2⟩ := op_parts ht
        refine ⟨l ++ [o], by simp [hlk], fun p hp => ?_, fun i hi => ?_⟩
        · rcases List.mem_append.1 hp with hp | hp
          · exact hwf p hp
          · rw [List.mem_singleton.1 hp]; exact ⟨ho1, ho2⟩
        · by_cases hik : i < l.length
          · rw [List.getElem_append_left hik]
            exact hcl i hik
          · have hie : i = l.length := by simp at hi; omega
            subst hie
            rw [List.getElem_concat_length rfl]
            rw [hlk, hc, hcs']
    obtain ⟨l, hll, hwf, hcl⟩ := build len (Nat.le_refl _)
    refine ⟨l, some a, m, by rw [hll]; simpa using hcs, by omega, hwf, fun hne => ?_⟩
    have hpos : 0 < l.length := List.length_pos_iff.2 hne
    obtain ⟨b, off, spot⟩ := a
    have h0 := (World.cells?_some (hcl 0 hpos)).2.2 0 (by omega)
    have hspot : spot = none := by simpa [Addr.add] using World.cell?_spot h0
    subst hspot
    have hb0 := World.block_lt_of_cell? W _ h0
    refine ⟨b, off, rfl, by simpa [Addr.add] using hb0, fun i hi => ?_⟩
    have hc := (World.cells?_some (hcl i hi)).2.2
    have c0 := hc 0 (by omega)
    have c1 := hc 1 (by omega)
    have c2 := hc 2 (by omega)
    have c3 := hc 3 (by omega)
    simp only [Addr.add_lit] at c0 c1 c2 c3
    exact ⟨c0, c1, c2, c3⟩
theorem bytesOp : Try.prog.bytesOf 31 = 40 := by kernel_rfl

theorem kind_any (k : Int) (n : Nat) (w : World) (hn : 0 < n) (hn2 : n ≤ 100) : Calls Try.prog 29 #[.int .i64 k, nV n] w fun e w' => (∃ m : Nat, m < n ∧ e = .returned (nV m)) ∧ w' = w := by
  have h2 : -(n : Int) < k.tmod n := by have := Int.lt_tmod_of_pos k (show (0 : Int) < n by omega); omega
  have h3 : k.tmod n < (n : Int) := Int.tmod_lt_of_pos k (by omega)
  obtain ⟨a, ha⟩ : ∃ a, a = k.tmod (n : Int) := ⟨_, rfl⟩
  rw [← ha] at h2 h3
  have e1 : IntKind.i64.wrap a = a := by rw [IntKind.wrap_i64]; omega
  have e2 : IntKind.i64.wrap (a + (n : Int)) = a + (n : Int) := by rw [IntKind.wrap_i64]; omega
  obtain ⟨m, hm⟩ : ∃ m : Nat, (m : Int) = (a + (n : Int)).tmod n := ⟨((a + (n : Int)).tmod n).toNat, by
    rw [Int.toNat_of_nonneg]
    exact Int.tmod_nonneg _ (by omega)⟩
  have hml : m < n := by
    have := Int.tmod_lt_of_pos (a + (n : Int)) (show (0 : Int) < n by omega)
    omega
  have hm2 : (a + (n : Int)) % (n : Int) = (m : Int) := by rw [hm, Int.tmod_eq_emod_of_nonneg (by omega)]
  have e3 : IntKind.i64.wrap (m : Int) = (m : Int) := by rw [IntKind.wrap_i64]; omega
  have hz : ¬ ((n : Int) = 0) := by omega
  have hzn : ¬ (n = 0) := by omega
  have hm1 : ¬ ((n : Int) = -1) := by omega
  have ha' := ha.symm
  have hm' := hm.symm
  clear ha hm
  go_enter Try.func29, Try.ntmps29
  go_wp2
  go_ret
  exact ⟨⟨m, hml, rfl⟩, rfl⟩
end Go.Proofs.Ytonpdnpfekmapaa
