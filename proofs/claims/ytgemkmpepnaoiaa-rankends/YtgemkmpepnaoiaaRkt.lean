/-
  Things, and By over things with an order that is handed in.
-/
import Derived.Test.YtgemkmpepnaoiaaRkm
import Derived.Deep.Slices
import Derived.SizedLaws
namespace Go.Proofs.Ytgemkmpepnaoiaa
open Go.ChangeShapes Go.WideShapes Go.ChangeAt Go.RowKit

structure Th where
  k : Int
  m : ByteArray
abbrev thV (t : Th) : Value := .agg #[.int .i64 t.k, .string t.m]
/-- v is a row of these things, in a block that p allows. -/
def ThAt (p : Nat → Prop) (W : World) (v : Value) (l : List Th) : Prop :=
  ∃ ao cap, v = .slice ao l.length cap ∧ l.length ≤ 17592186044416 ∧ (∀ t ∈ l, I64 t.k) ∧
    (l ≠ [] → ∃ b off, ao = some ⟨b, off, none⟩ ∧ p b ∧ b < W.heap.size ∧ ∀ i (hi : i < l.length), W.cell? ⟨b, off + i * 2, none⟩ = some (.int .i64 l[i].k) ∧ W.cell? ⟨b, off + i * 2 + 1, none⟩ = some (.string l[i].m))
theorem ThAt.kept {p : Nat → Prop} {S : Nat → Prop} {W W' : World} {v : Value} {l : List Th} (h : ThAt p W v l) (hk : Kept S W W') (hn : ∀ b, p b → ¬ S b) : ThAt p W' v l := by
  obtain ⟨ao, cap, hv, hl, hz, hc⟩ := h
  refine ⟨ao, cap, hv, hl, hz, fun h0 => ?_⟩
  obtain ⟨b, off, ha, hp, hb, hcell⟩ := hc h0
  exact ⟨b, off, ha, hp, Nat.lt_of_lt_of_le hb hk.size, fun i hi => ⟨(hk.cell (p := ⟨b, off + i * 2, none⟩) hb (hn b hp)).trans (hcell i hi).1, (hk.cell (p := ⟨b, off + i * 2 + 1, none⟩) hb (hn b hp)).trans (hcell i hi).2⟩⟩
theorem ThAt.mono {p q : Nat → Prop} {W : World} {v : Value} {l : List Th} (h : ThAt p W v l) (hpq : ∀ b, p b → q b) : ThAt q W v l := by
  obtain ⟨ao, cap, hv, hl, hz, hc⟩ := h
  exact ⟨ao, cap, hv, hl, hz, fun h0 => let ⟨b, off, ha, hp, r⟩ := hc h0; ⟨b, off, ha, hpq b hp, r⟩⟩
theorem ThAt.fresh {p : Nat → Prop} {W W' : World} {v : Value} {l : List Th} (h : ThAt p W v l) (hk : Fresh W W') : ThAt p W' v l := h.kept hk (fun _ _ e => e)
theorem ThAt.len {p : Nat → Prop} {W : World} {v : Value} {l : List Th} (h : ThAt p W v l) : l.length ≤ 17592186044416 := by obtain ⟨_, _, _, h, _⟩ := h; exact h
theorem list2 {α : Type} {l : List α} (h : l.length = 2) : ∃ a b, l = [a, b] := by
  match l, h with
  | [a, b], _ => exact ⟨a, b, rfl⟩
theorem Try.cTh : Try.prog.cellsOf 34 = 2 := by kernel_rfl
theorem Try.bTh : Try.prog.bytesOf 34 = 24 := by kernel_rfl
theorem Try.cI : Try.prog.cellsOf 3 = 1 := by kernel_rfl
theorem Try.cS : Try.prog.cellsOf 9 = 1 := by kernel_rfl
theorem th_parts {H : Type} {enc : TypeId × Value → H} {W : World} {fuel : Nat} {cs : List Value} {x : DataW H × List MemPlace} (h : DataW.trod enc Try.prog W 0 (fun _ => true) true fuel 34 cs = some x) :
    ∃ t : Th, cs = [.int .i64 t.k, .string t.m] ∧ I64 t.k := by
  obtain ⟨xs, m, _, hxe, hl, hx, hfs⟩ := DataW.trod_struct Try.underlying34 h
  rw [Try.cTh] at hl
  obtain ⟨c0, c1, rfl⟩ := list2 hl
  obtain ⟨x0, x1, rfl⟩ := list2 (show xs.length = 2 from hx)
  have h0 : DataW.trod enc Try.prog W 0 (fun _ => true) true m 3 [c0] = some x0 := by simpa [Try.cI] using hfs 0 _ rfl
  have h1 : DataW.trod enc Try.prog W 0 (fun _ => true) true m 9 [c1] = some x1 := by simpa [Try.cS] using hfs 1 _ rfl
  obtain ⟨k, e0, rfl, w0⟩ := DataW.trod_int Try.underlying3 h0
  obtain ⟨s, e1, rfl, w1⟩ := DataW.trod_string Try.underlying9 h1
  simp only [List.cons.injEq, and_true] at e0 e1
  subst e0 e1
  exact ⟨⟨k, s⟩, rfl, i64_of w0⟩
theorem things_at {H : Type} {enc : TypeId × Value → H} {W : World} {fuel : Nat} {v : Value} {x : DataW H × List MemPlace} (h : DataW.trod enc Try.prog W 0 (fun _ => true) true fuel 32 [v] = some x) (hsz : ∀ es sp, x.1 = .slice es sp → es.length * 24 ≤ 140737488351232) :
    ∃ l : List Th, ThAt (fun b => b < W.heap.size) W v l ∧ (∀ c, v = .slice none 0 c → c = 0) ∧ l.length * 24 ≤ 140737488351232 := by
  rcases Go.Deep.open_slice Try.underlying32 h with ⟨hcs, hx⟩ | ⟨a, len, cap, m, n, D, Pl, hcs, _, hl, hmx, hm, hx, hel⟩
  · have hv : v = .slice none 0 0 := by simpa using hcs
    exact ⟨[], ⟨none, 0, hv, by simp, fun o ho => by simp at ho, fun e => absurd rfl e⟩, fun c e => by rw [hv] at e; simp at e; omega, by simp⟩
  · simp only [if_true] at hm
    subst hm
    rw [Try.cTh] at hel
    have hlen : len * 24 ≤ 140737488351232 := by
      have := hsz _ _ (by rw [hx])
      rw [List.length_map, List.length_range] at this
      exact this
    have build : ∀ k, k ≤ len → ∃ l : List Th, l.length = k ∧ (∀ o ∈ l, I64 o.k) ∧ ∀ i (hi : i < l.length), W.cells? 0 (a.add (i * 2)) 2 = some [.int .i64 l[i].k, .string l[i].m] := by
      intro k
      induction k with
      | zero => intro _; exact ⟨[], rfl, fun o ho => by simp at ho, fun i hi => by simp at hi⟩
      | succ k ih =>
        intro hk
        obtain ⟨l, hlk, hwf, hcl⟩ := ih (by omega)
        obtain ⟨cs', hc, ht⟩ := hel k (by omega)
        obtain ⟨o, hcs', ho1⟩ := th_parts ht
        refine ⟨l ++ [o], by simp [hlk], fun p hp => ?_, fun i hi => ?_⟩
        · rcases List.mem_append.1 hp with hp | hp
          · exact hwf p hp
          · rw [List.mem_singleton.1 hp]; exact ho1
        · by_cases hik : i < l.length
          · rw [List.getElem_append_left hik]
            exact hcl i hik
          · have hie : i = l.length := by simp at hi; omega
            subst hie
            rw [List.getElem_concat_length rfl]
            rw [hlk, hc, hcs']
    obtain ⟨l, hll, hwf, hcl⟩ := build len (Nat.le_refl _)
    have hv : v = .slice (some a) len m := by simpa using hcs
    refine ⟨l, ⟨some a, m, by rw [hll]; exact hv, by omega, hwf, fun hne => ?_⟩, fun c e => by rw [hv] at e; simp at e, by omega⟩
    have hpos : 0 < l.length := List.length_pos_iff.2 hne
    obtain ⟨b, off, spot⟩ := a
    have h0 := (World.cells?_some (hcl 0 hpos)).2.2 0 (by omega)
    have hspot : spot = none := by simpa [Addr.add] using World.cell?_spot h0
    subst hspot
    have hb0 := World.block_lt_of_cell? W _ h0
    refine ⟨b, off, rfl, by simpa [Addr.add] using hb0, by simpa [Addr.add] using hb0, fun i hi => ?_⟩
    have hc := (World.cells?_some (hcl i hi)).2.2
    have c0 := hc 0 (by omega)
    have c1 := hc 1 (by omega)
    simp only [Addr.add_lit] at c0 c1
    exact ⟨c0, c1⟩

/-- A comparison of things that is handed in. -/
structure AskT (F : Nat) (caps : Array Value) (R : Th → Th → Bool → Prop) (T : Nat → Prop) (n0 : Nat) (J : World → Prop) : Prop where
  enters : ∀ (args : Array Value) (X : World), (callFunc F args).run Try.prog X = .ok (.enter F args) X
  asks : ∀ X a b, J X → Calls Try.prog F (#[thV a, thV b] ++ caps) X fun e X' => ∃ c, e = .returned (.bool c) ∧ R a b c ∧ J X' ∧ Kept T X X'
  kept : ∀ X X', J X → Kept (fun k => n0 ≤ k) X X' → J X'
  ahead : ∀ k, T k → k < n0

/-- What must be for By's comparison to be asked. -/
def JT (J : World → Prop) (T : Nat → Prop) (F : Nat) (caps : Array Value) (bA bL n0 : Nat) (rv : Value) (l : List Th) (X : World) : Prop :=
  J X ∧ X.cell? ⟨bA, 0, none⟩ = some (.func (.func F) #[] caps) ∧ X.cell? ⟨bL, 0, none⟩ = some rv ∧ ThAt (fun k => k < n0 ∧ ¬ T k) X rv l ∧ bA < X.heap.size ∧ bL < X.heap.size

set_option maxHeartbeats 1000000 in
set_option maxRecDepth 100000 in
theorem byTAsk {F : Nat} {caps : Array Value} {R : Th → Th → Bool → Prop} {T : Nat → Prop} {n1 : Nat} {J : World → Prop} (hA : AskT F caps R T n1 J) (bA bL n0 : Nat) (rv : Value) (l : List Th) (_h01 : n1 ≤ n0) (hbA : bA < n0) (hbL : bL < n0) (hA1 : n1 ≤ bA) (hL1 : n1 ≤ bL) :
    Ask 28 #[.pointer (some ⟨bA, 0, none⟩), .pointer (some ⟨bL, 0, none⟩)] (fun z => 0 ≤ z ∧ z < l.length) (fun i j b => ∃ x y, l[i.toNat]? = some x ∧ l[j.toNat]? = some y ∧ R x y b) T n0 (JT J T F caps bA bL n0 rv l) where
  enters := fun args X => by simp [go_sem]
  ahead := fun k h => by have := hA.ahead k h; omega
  kept := fun X X' h hk => by
    obtain ⟨h0, h1, h2, h3, h4, h5⟩ := h
    exact ⟨hA.kept _ _ h0 (hk.mono (fun k _ e => by omega)), (hk.cell (p := ⟨bA, 0, none⟩) h4 (by simp; omega)).trans h1, (hk.cell (p := ⟨bL, 0, none⟩) h5 (by simp; omega)).trans h2, h3.kept hk (fun b hb e => by omega), Nat.lt_of_lt_of_le h4 hk.size, Nat.lt_of_lt_of_le h5 hk.size⟩
  asks := fun X i j hJ hi hj => by
    obtain ⟨a, rfl⟩ : ∃ a : Nat, i = (a : Int) := ⟨i.toNat, by omega⟩
    obtain ⟨b, rfl⟩ : ∃ b : Nat, j = (b : Int) := ⟨j.toNat, by omega⟩
    have ha : a < l.length := by have := hi.2; omega
    have hb : b < l.length := by have := hj.2; omega
    have HE := hA.enters
    have HAs : Hid (Unit → _) := fun (_ : Unit) => hA.asks
    have HJ : Hid (JT J T F caps bA bL n0 rv l X) := hJ
    have HT : Hid (∀ k, T k → k < n1) := hA.ahead
    have HKp : Hid (∀ X X', J X → Kept (fun k => n1 ≤ k) X X' → J X') := hA.kept
    obtain ⟨h0, h1, h2, h3, h4, h5⟩ := hJ
    obtain ⟨ao, cap, hv, _, _, hc⟩ := id h3
    subst hv
    obtain ⟨lb, off, rfl, hp, hlb, hcell⟩ := hc (fun e => by rw [e] at ha; simp at ha)
    obtain ⟨c1, c2⟩ := hcell a ha
    obtain ⟨c3, c4⟩ := hcell b hb
    simp only [Int.toNat_natCast]
    have HX : Hid (l[a]? = some l[a] ∧ l[b]? = some l[b]) := ⟨List.getElem?_eq_getElem ha, List.getElem?_eq_getElem hb⟩
    have ha' : (a : Int) < (l.length : Int) := by omega
    have hb' : (b : Int) < (l.length : Int) := by omega
    have hTl : ¬ T lb := hp.2
    have hTA : ¬ T bA := fun e => by have := HT.out _ e; omega
    have hTL : ¬ T bL := fun e => by have := HT.out _ e; omega
    have hd : JT J T F caps bA bL n0 (.slice (some ⟨lb, off, none⟩) l.length cap) l X.drew := ⟨HKp.out _ _ h0 (Kept.refl _ _).drew, h1, h2, h3.fresh ((Kept.refl _ X).drew), h4, h5⟩
    have hask := (HAs.out ()) X.drew l[a] l[b] hd.1
    generalize l[a] = x at *
    generalize l[b] = y at *
    clear hcell hc hA hi hj
    show Calls Try.prog 28 #[zV a, zV b, .pointer (some ⟨bA, 0, none⟩), .pointer (some ⟨bL, 0, none⟩)] X _
    go_enter Try.func28, Try.ntmps28
    go_wp2_with fail
    go_region_held3 (fun X' => X'.cell? ⟨bA, 0, none⟩ = some (.func (.func F) #[] caps) ∧ X'.cell? ⟨bL, 0, none⟩ = some (.slice (some ⟨lb, off, none⟩) l.length cap) ∧ X'.cell? ⟨lb, off + a * 2, none⟩ = some (.int .i64 x.k) ∧ X'.cell? ⟨lb, off + a * 2 + 1, none⟩ = some (.string x.m) ∧ X'.cell? ⟨lb, off + b * 2, none⟩ = some (.int .i64 y.k) ∧ X'.cell? ⟨lb, off + b * 2 + 1, none⟩ = some (.string y.m)) (first | exact ⟨h1, h2, c1, c2, c3, c4⟩ | exact hS' | assumption)
      (first | ((with_reducible refine hask.mono ?_); rintro e X' ⟨cc, rfl, hRb, hJb, hKb⟩; have hS' : X'.cell? ⟨bA, 0, none⟩ = some (.func (.func F) #[] caps) ∧ X'.cell? ⟨bL, 0, none⟩ = some (.slice (some ⟨lb, off, none⟩) l.length cap) ∧ X'.cell? ⟨lb, off + a * 2, none⟩ = some (.int .i64 x.k) ∧ X'.cell? ⟨lb, off + a * 2 + 1, none⟩ = some (.string x.m) ∧ X'.cell? ⟨lb, off + b * 2, none⟩ = some (.int .i64 y.k) ∧ X'.cell? ⟨lb, off + b * 2 + 1, none⟩ = some (.string y.m) := ⟨(hKb.cell (p := ⟨bA, 0, none⟩) h4 hTA).trans h1, (hKb.cell (p := ⟨bL, 0, none⟩) h5 hTL).trans h2, (hKb.cell (p := ⟨lb, off + a * 2, none⟩) hlb hTl).trans c1, (hKb.cell (p := ⟨lb, off + a * 2 + 1, none⟩) hlb hTl).trans c2, (hKb.cell (p := ⟨lb, off + b * 2, none⟩) hlb hTl).trans c3, (hKb.cell (p := ⟨lb, off + b * 2 + 1, none⟩) hlb hTl).trans c4⟩))
    all_goals
      have HR : Hid (R x y cc ∧ JT J T F caps bA bL n0 (.slice (some ⟨lb, off, none⟩) l.length cap) l X' ∧ Kept T X X') := ⟨hRb, ⟨hJb, hS'.1, hS'.2.1, hd.2.2.2.1.kept hKb (fun b hb e => hb.2 e), Nat.lt_of_lt_of_le h4 hKb.size, Nat.lt_of_lt_of_le h5 hKb.size⟩, Kept.undrew hKb⟩
      clear hKb hJb hRb hS'
      go_wp2
      go_ret
      exact ⟨_, rfl, ⟨x, y, HX.out.1, HX.out.2, HR.out.1⟩, HR.out.2.1, HR.out.2.2⟩
end Go.Proofs.Ytgemkmpepnaoiaa
