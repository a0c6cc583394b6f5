/-
  A small guide; awake; guides out of their readings.
-/
import Derived.Test.YtdponkpgokncdaaGuq
import Derived.Test.YtdponkpgokncdaaFrQ
import Derived.Deep.DeepCutAuto
import Derived.Deep.Grids
namespace Go.Proofs.Ytdponkpgokncdaa
open Go.ChangeShapes Go.WideShapes Go.ChangeAt Go.RowKit Go.Lib Go.Maps

theorem list2g {α : Type} {l : List α} (h : l.length = 2) : ∃ a b, l = [a, b] := by
  match l, h with
  | [a, b], _ => exact ⟨a, b, rfl⟩
theorem list4g {α : Type} {l : List α} (h : l.length = 4) : ∃ a b c d, l = [a, b, c, d] := by
  match l, h with
  | [a, b, c, d], _ => exact ⟨a, b, c, d, rfl⟩
theorem arr2g {α : Type} {l : Array α} (h : l.size = 2) : ∃ a b, l = #[a, b] := by
  obtain ⟨a, b, e⟩ := list2g (l := l.toList) (by simpa using h)
  exact ⟨a, b, by apply Array.ext'; rw [e]⟩
theorem getD_rangeG {n : Nat} (B : Nat → Bool) {i : Nat} (hi : i < n) : ((List.range n).map B).getD i false = B i := by
  rw [List.getD_eq_getElem?_getD, List.getElem?_map, List.getElem?_range hi]
  rfl
theorem Try.cEd : Try.prog.cellsOf 69 = 4 := by kernel_rfl
theorem Try.cIg : Try.prog.cellsOf 3 = 1 := by kernel_rfl
theorem Try.cUg : Try.prog.cellsOf 5 = 1 := by kernel_rfl
theorem Try.bEd : Try.prog.bytesOf 69 = 24 := by kernel_rfl
theorem Try.bBl : Try.prog.bytesOf 4 = 1 := by kernel_rfl
theorem u8_of {x : Int} (h : (Lit.int .u8 x).wf = true) : ∃ n : Nat, x = (n : Int) ∧ n < 256 := by
  have := bounds_u8 h
  exact ⟨x.toNat, by omega, by omega⟩
theorem ed_parts {H : Type} {enc : TypeId × Value → H} {W : World} {fuel : Nat} {cs : List Value} {x : DataW H × List MemPlace} (h : DataW.trod enc Try.prog W 0 (fun _ => true) true fuel 69 cs = some x) :
    ∃ o : Ed, cs = [zV o.f, .int .u8 (o.lo : Int), .int .u8 (o.hi : Int), zV o.t] ∧ EdOk o := by
  obtain ⟨xs, m, _, hxe, hl, hx, hfs⟩ := DataW.trod_struct Try.underlying69 h
  rw [Try.cEd] at hl
  obtain ⟨c0, c1, c2, c3, rfl⟩ := list4g hl
  obtain ⟨x0, x1, x2, x3, rfl⟩ := list4g (show xs.length = 4 from hx)
  have h0 : DataW.trod enc Try.prog W 0 (fun _ => true) true m 3 [c0] = some x0 := by simpa [Try.cIg] using hfs 0 _ rfl
  have h1 : DataW.trod enc Try.prog W 0 (fun _ => true) true m 5 [c1] = some x1 := by simpa [Try.cUg] using hfs 1 _ rfl
  have h2 : DataW.trod enc Try.prog W 0 (fun _ => true) true m 5 [c2] = some x2 := by simpa [Try.cUg] using hfs 2 _ rfl
  have h3 : DataW.trod enc Try.prog W 0 (fun _ => true) true m 3 [c3] = some x3 := by simpa [Try.cIg] using hfs 3 _ rfl
  obtain ⟨k, e0, rfl, w0⟩ := DataW.trod_int Try.underlying3 h0
  obtain ⟨a, e1, rfl, w1⟩ := DataW.trod_int Try.underlying5 h1
  obtain ⟨b, e2, rfl, w2⟩ := DataW.trod_int Try.underlying5 h2
  obtain ⟨n, e3, rfl, w3⟩ := DataW.trod_int Try.underlying3 h3
  simp only [List.cons.injEq, and_true] at e0 e1 e2 e3
  subst e0 e1 e2 e3
  obtain ⟨a', rfl, ha⟩ := u8_of w1
  obtain ⟨b', rfl, hb⟩ := u8_of w2
  exact ⟨⟨k, a', b', n⟩, rfl, i64_of w0, ha, hb, i64_of w3⟩
set_option maxRecDepth 100000 in
theorem edr_at {H : Type} {enc : TypeId × Value → H} {W : World} {fuel : Nat} {v : Value} {x : DataW H × List MemPlace} (h : DataW.trod enc Try.prog W 0 (fun _ => true) true fuel 23 [v] = some x) (hsz : ∀ es sp, x.1 = .slice es sp → es.length * 24 ≤ 140737488351232) :
    ∃ E : List Ed, EdR (fun b => b < W.heap.size) W v E := by
  rcases Go.Deep.open_slice Try.underlying23 h with ⟨hcs, hx⟩ | ⟨a, len, cap, m, n, D, Pl, hcs, _, hl, hmx, hm, hx, hel⟩
  · exact ⟨[], ⟨none, 0, by simpa using hcs, fun _ => rfl, Nat.le_refl _, by simp, fun i hi => absurd hi (Nat.not_lt_zero _), fun e => absurd e (Nat.lt_irrefl _)⟩⟩
  · simp only [if_true] at hm
    subst hm
    rw [Try.cEd] at hel
    have hlen : len * 24 ≤ 140737488351232 := by
      have := hsz _ _ (by rw [hx])
      rw [List.length_map, List.length_range] at this
      exact this
    have build : ∀ k, k ≤ len → ∃ l : List Ed, l.length = k ∧ (∀ o ∈ l, EdOk o) ∧ ∀ i (hi : i < l.length), W.cells? 0 (a.add (i * 4)) 4 = some [zV l[i].f, .int .u8 (l[i].lo : Int), .int .u8 (l[i].hi : Int), zV l[i].t] := by
      intro k
      induction k with
      | zero => intro _; exact ⟨[], rfl, fun o ho => by simp at ho, fun i hi => by simp at hi⟩
      | succ k ih =>
        intro hk
        obtain ⟨l, hlk, hwf, hcl⟩ := ih (by omega)
        obtain ⟨cs', hc, ht⟩ := hel k (by omega)
        obtain ⟨o, hcs', ho⟩ := ed_parts ht
        refine ⟨l ++ [o], by simp [hlk], fun p hp => ?_, fun i hi => ?_⟩
        · rcases List.mem_append.1 hp with hp | hp
          · exact hwf p hp
          · rw [List.mem_singleton.1 hp]; exact ho
        · by_cases hik : i < l.length
          · rw [List.getElem_append_left hik]
            exact hcl i hik
          · have hie : i = l.length := by simp at hi; omega
            subst hie
            rw [List.getElem_concat_length rfl]
            rw [hlk, hc, hcs']
    obtain ⟨l, hll, hwf, hcl⟩ := build len (Nat.le_refl _)
    have hgm : ∀ i (hi : i < l.length), gE l i = l[i] := fun i hi => by rw [gE, List.getD_eq_getElem?_getD, List.getElem?_eq_getElem hi]; rfl
    refine ⟨l, ⟨some a, m, by rw [hll]; simpa using hcs, fun e => (by cases e), by omega, by omega, fun i hi => ?_, fun hpos => ?_⟩⟩
    · rw [hgm i hi]; exact hwf _ (List.getElem_mem hi)
    · obtain ⟨b, off, spot⟩ := a
      have h0 := (World.cells?_some (hcl 0 hpos)).2.2 0 (by omega)
      have hspot : spot = none := by simpa [Addr.add] using World.cell?_spot h0
      subst hspot
      have hb0 := World.block_lt_of_cell? W _ h0
      refine ⟨b, off, rfl, by simpa [Addr.add] using hb0, by simpa [Addr.add] using hb0, fun i hi => ?_⟩
      have hc := (World.cells?_some (hcl i hi)).2.2
      have c0 := hc 0 (by omega)
      have c1 := hc 1 (by omega)
      have c2 := hc 2 (by omega)
      have c3 := hc 3 (by omega)
      simp only [Addr.add_lit] at c0 c1 c2 c3
      rw [hgm i hi]
      exact ⟨c0, c1, c2, c3⟩
set_option maxRecDepth 100000 in
theorem rbl_at {H : Type} {enc : TypeId × Value → H} {W : World} {fuel : Nat} {v : Value} {x : DataW H × List MemPlace} (h : DataW.trod enc Try.prog W 0 (fun _ => true) true fuel 22 [v] = some x)
    (hsz : ∀ es sp, x.1 = .slice es sp → es.length ≤ 140737488351232) : ∃ l : List Bool, RbL (fun b => b < W.heap.size) W v l := by
  rcases Go.Deep.open_bools Try.underlying22 Try.underlying4 (by kernel_rfl) h with ⟨hcs, _⟩ | ⟨a, len, cap, B, hcs, _, hl, hm, hx, hcell⟩
  · exact ⟨[], none, 0, by simpa using hcs, fun _ => rfl, Nat.le_refl _, by simp, fun h0 => by simp at h0⟩
  · have hl1 := hsz ((List.range len).map fun i => .lit (.bool (B i))) ((List.range (cap - len)).map fun j => .lit (.bool (B (len + j)))) (by rw [hx]; rfl)
    have hv : v = .slice (some a) len cap := by simpa using hcs
    refine ⟨(List.range len).map B, some a, cap, by simpa using hv, fun e => (by cases e), by simpa using hl, by simpa using hl1, fun h0 => ?_⟩
    have hpos : 0 < len := by simpa using h0
    obtain ⟨b, off, spot⟩ := a
    have hc0 := hcell 0 (by omega)
    have hspot : spot = none := by simpa [Addr.add] using World.cell?_spot hc0
    subst hspot
    have hb0 := World.block_lt_of_cell? W _ hc0
    refine ⟨b, off, rfl, by simpa [Addr.add] using hb0, by simpa [Addr.add] using hb0, fun i hi => ?_⟩
    have hi' : i < len := by simpa using hi
    have := hcell i (by omega)
    rw [getD_rangeG B hi', ← this, Addr.add_lit]
set_option maxRecDepth 100000 in
/-- A guide that is handed in. -/
theorem guide_of {H : Type} {enc : TypeId × Value → H} {W : World} {r : Reach} {b0 : Nat} {v : Value} {d : DataW H} {p : List MemPlace} {ts : List TypeId} {ds : List (DataW H)} {j : Nat} (hv : Value.okWide Try.prog W r b0 25 v) (h : DataW.Trod enc Try.prog W 0 (fun _ => true) true 25 v d p)
    (hsz : (DataW.weightsEach Try.prog ts ds).all (· ≤ reachBytes) = true) (ht : ts[j]? = some 25) (hd : ds[j]? = some d) :
    ∃ acv edv A E, v = .agg #[acv, edv] ∧ RbL (fun b => b < W.heap.size) W acv A ∧ EdR (fun b => b < W.heap.size) W edv E := by
  obtain ⟨cs, rfl, hcs⟩ := okWide_struct Try.underlying25 hv
  obtain ⟨v0, v1, rfl⟩ := arr2g (hcs.trans (by kernel_rfl))
  obtain ⟨fuel, hf⟩ := h
  obtain ⟨xs, n, _, hx, hl, hlen, hfs⟩ := DataW.trod_struct Try.underlying25 hf
  obtain ⟨y0, y1, rfl⟩ := list2g (l := xs) hlen
  simp only [Prod.mk.injEq, List.map_cons, List.map_nil] at hx
  obtain ⟨rfl, rfl⟩ := hx
  have hg := sized_field hsz ht hd Try.underlying25
  have c8 : Try.prog.cellsOf 22 = 1 := by kernel_rfl
  have ci : Try.prog.cellsOf 23 = 1 := by kernel_rfl
  have q0 : DataW.trod enc Try.prog W 0 (fun _ => true) true n 22 [v0] = some y0 := by simpa [Value.cells, c8] using hfs 0 _ rfl
  have q1 : DataW.trod enc Try.prog W 0 (fun _ => true) true n 23 [v1] = some y1 := by simpa [Value.cells, ci] using hfs 1 _ rfl
  obtain ⟨A, hA⟩ := rbl_at q0 (fun es sp e => by
    have := sized_slice hg (j := 0) (t := 22) (e := 4) rfl (by rw [e]; rfl) Try.underlying22
    rw [Try.bBl] at this
    simp only [reachBytes] at this
    omega)
  obtain ⟨E, hE⟩ := edr_at q1 (fun es sp e => by
    have := sized_slice hg (j := 1) (t := 23) (e := 69) rfl (by rw [e]; rfl) Try.underlying23
    rw [Try.bEd] at this
    simp only [reachBytes] at this
    omega)
  exact ⟨v0, v1, A, E, rfl, hA, hE⟩

def A0 : List Bool := [false, true]
def E0 : List Ed := [⟨0, 97, 97, 1⟩, ⟨1, 97, 98, 1⟩]
theorem ch0 : chE A0 E0 = 0 ∧ chP A0 E0 = 0 := by decide +kernel
theorem ac0 : acF A0 E0 [97, 98, 98, 97] = true ∧ acF A0 E0 [98] = false := by decide +kernel
theorem wl0 : wlF A0 E0 0 [97, 98] = 1 := by decide +kernel
abbrev gb0 (w : World) : Obj := .cells #[.slice (some ⟨w.heap.size + 1, 0, none⟩) 2 2, .slice (some ⟨w.heap.size + 1 + 1, 0, none⟩) 2 2] 25
abbrev gb1 : Obj := .cells #[.bool false, .bool true] 4
abbrev gb2 : Obj := .cells #[zV 0, .int .u8 97, .int .u8 97, zV 1, zV 1, .int .u8 97, .int .u8 98, zV 1] 69
theorem small_rowsG (w : World) : RbL (fun _ => True) (((w.alloc (gb0 w)).alloc gb1).alloc gb2) (.slice (some ⟨w.heap.size + 1, 0, none⟩) 2 2) A0 ∧ EdR (fun _ => True) (((w.alloc (gb0 w)).alloc gb1).alloc gb2) (.slice (some ⟨w.heap.size + 1 + 1, 0, none⟩) 2 2) E0 ∧ (((w.alloc (gb0 w)).alloc gb1).alloc gb2).heap[w.heap.size]? = some (gb0 w) := by
  have s1 : (w.alloc (gb0 w)).heap.size = w.heap.size + 1 := by rw [World.size_alloc]
  have s2 : ((w.alloc (gb0 w)).alloc gb1).heap.size = w.heap.size + 1 + 1 := by rw [World.size_alloc, s1]
  have s3 : (((w.alloc (gb0 w)).alloc gb1).alloc gb2).heap.size = w.heap.size + 1 + 1 + 1 := by rw [World.size_alloc, s2]
  have h2 : (((w.alloc (gb0 w)).alloc gb1).alloc gb2).heap[w.heap.size + 1 + 1]? = some gb2 := by rw [← s2]; exact heap_alloc_new _ _
  have h1 : (((w.alloc (gb0 w)).alloc gb1).alloc gb2).heap[w.heap.size + 1]? = some gb1 := by
    rw [Below.heap_alloc _ _ _ (by omega), ← s1]; exact heap_alloc_new _ _
  have h0 : (((w.alloc (gb0 w)).alloc gb1).alloc gb2).heap[w.heap.size]? = some (gb0 w) := by
    rw [Below.heap_alloc _ _ _ (by omega), Below.heap_alloc _ _ _ (by omega)]; exact heap_alloc_new _ _
  have c1 := fun j => Lib.cell_of_heap h1 j
  have c2 := fun j => Lib.cell_of_heap h2 j
  refine ⟨⟨_, 2, rfl, fun e => (by cases e), Nat.le_refl _, by decide, fun _ => ⟨w.heap.size + 1, 0, rfl, trivial, by omega, fun i hi => ?_⟩⟩, ⟨_, 2, rfl, fun e => (by cases e), Nat.le_refl _, by decide, fun i hi => ?_, fun _ => ⟨w.heap.size + 1 + 1, 0, rfl, trivial, by omega, fun i hi => ?_⟩⟩, h0⟩
  · have hi2 : i < 2 := hi
    have : i = 0 ∨ i = 1 := by omega
    rcases this with rfl | rfl <;> exact c1 _
  · have hi2 : i < 2 := hi
    have : i = 0 ∨ i = 1 := by omega
    rcases this with rfl | rfl <;> exact ⟨⟨by decide, by decide⟩, by decide, by decide, ⟨by decide, by decide⟩⟩
  · have hi2 : i < 2 := hi
    have : i = 0 ∨ i = 1 := by omega
    rcases this with rfl | rfl <;> exact ⟨c2 _, c2 _, c2 _, c2 _⟩
theorem guiSize : (Try.prog.info? 25).map (·.size) = some 2 := by kernel_rfl
set_option maxHeartbeats 500000 in
set_option maxRecDepth 100000 in
theorem smallG_any (w : World) : Calls Try.prog 32 #[] w fun e w' => ∃ tv mv, e = .returned (.agg #[tv, mv]) ∧ RbL (fun _ => True) w' tv A0 ∧ EdR (fun _ => True) w' mv E0 ∧ Fresh w w' := by
  have HR := show Hid _ from small_rowsG w
  go_enter Try.func32, Try.ntmps32
  go_wp2
  exact bodyPost_ret (results_cell_row rfl _ _ w.heap.size _ _ _ _ rfl HR.out.2.2 Try.underlying25 rfl guiSize) rfl ⟨_, _, rfl, HR.out.1, HR.out.2.1, (((Kept.refl _ w).alloc _).alloc _).alloc _⟩
set_option maxHeartbeats 500000 in
set_option maxRecDepth 100000 in
theorem awakeG_any (w : World) : Calls Try.prog 14 #[] w fun e w' => e = .returned (.bool true) ∧ Fresh w w' := by
  have HS : Hid (∀ W, _) := fun W => smallG_any W
  have HCk : Hid (∀ (W : World) tv mv, RbL (fun _ => True) W tv A0 → EdR (fun _ => True) W mv E0 → Calls Try.prog 10 #[.agg #[tv, mv]] W fun e X' => e = .returned (.tuple #[zV 0, zV 0]) ∧ Fresh W X') := fun W tv mv h1 h2 => by
    have := check_any A0 E0 tv mv W h1 h2
    rw [ch0.1, ch0.2] at this
    exact this
  have HA1 : Hid (∀ (W : World) tv mv, RbL (fun _ => True) W tv A0 → EdR (fun _ => True) W mv E0 → Calls Try.prog 18 #[.agg #[tv, mv], .string ⟨#[97, 98, 98, 97]⟩] W fun e X' => e = .returned (.bool true) ∧ Fresh W X') := fun W tv mv h1 h2 => by
    have := accept_any A0 E0 tv mv W h1 h2 ⟨#[97, 98, 98, 97]⟩ (by decide)
    rw [ac0.1] at this
    exact this
  have HA2 : Hid (∀ (W : World) tv mv, RbL (fun _ => True) W tv A0 → EdR (fun _ => True) W mv E0 → Calls Try.prog 18 #[.agg #[tv, mv], .string ⟨#[98]⟩] W fun e X' => e = .returned (.bool false) ∧ Fresh W X') := fun W tv mv h1 h2 => by
    have := accept_any A0 E0 tv mv W h1 h2 ⟨#[98]⟩ (by decide)
    rw [ac0.2] at this
    exact this
  have HW1 : Hid (∀ (W : World) tv mv, RbL (fun _ => True) W tv A0 → EdR (fun _ => True) W mv E0 → Calls Try.prog 16 #[.agg #[tv, mv], .int .i64 0, .string ⟨#[97, 98]⟩] W fun e X' => e = .returned (.int .i64 1) ∧ Fresh W X') := fun W tv mv h1 h2 => by
    have := walk_any A0 E0 tv mv W h1 h2 0 ⟨#[97, 98]⟩ (by decide)
    rw [wl0] at this
    exact this
  go_enter Try.func14, Try.ntmps14
  go_wp2_with fail
  refine Calls.mono (HS.out _) ?_
  rintro e W1 ⟨tv, mv, rfl, h1, h2, hF1⟩
  have HC := show Hid _ from HCk.out W1 tv mv h1 h2
  have HF : Hid (Fresh w W1) := hF1
  clear h1 h2 hF1 HCk
  go_wp2_with fail
  refine Calls.mono HC.out ?_
  rintro e W2 ⟨rfl, hF2⟩
  have HF2 : Hid (Fresh w W2) := HF.out.trans hF2 (fun _ _ e => e)
  clear HC HF hF2
  go_wp2_with fail
  refine Calls.mono (HS.out _) ?_
  rintro e W3 ⟨tv, mv, rfl, h1, h2, hF3⟩
  have HC := show Hid _ from HA1.out W3 tv mv h1 h2
  have HF : Hid (Fresh w W3) := HF2.out.trans hF3 (fun _ _ e => e)
  clear h1 h2 hF3 HF2 HA1
  go_wp2_with fail
  refine Calls.mono HC.out ?_
  rintro e W4 ⟨rfl, hF4⟩
  have HF4 : Hid (Fresh w W4) := HF.out.trans hF4 (fun _ _ e => e)
  clear HC HF hF4
  go_wp2_with fail
  refine Calls.mono (HS.out _) ?_
  rintro e W5 ⟨tv, mv, rfl, h1, h2, hF5⟩
  have HC := show Hid _ from HA2.out W5 tv mv h1 h2
  have HF : Hid (Fresh w W5) := HF4.out.trans hF5 (fun _ _ e => e)
  clear h1 h2 hF5 HF4 HA2
  go_wp2_with fail
  refine Calls.mono HC.out ?_
  rintro e W6 ⟨rfl, hF6⟩
  have HF6 : Hid (Fresh w W6) := HF.out.trans hF6 (fun _ _ e => e)
  clear HC HF hF6
  go_wp2_with fail
  refine Calls.mono (HS.out _) ?_
  rintro e W7 ⟨tv, mv, rfl, h1, h2, hF7⟩
  have HC := show Hid _ from HW1.out W7 tv mv h1 h2
  have HF : Hid (Fresh w W7) := HF6.out.trans hF7 (fun _ _ e => e)
  clear h1 h2 hF7 HF6 HW1
  go_wp2_with fail
  refine Calls.mono HC.out ?_
  rintro e W8 ⟨rfl, hF8⟩
  have HF8 : Hid (Fresh w W8) := HF.out.trans hF8 (fun _ _ e => e)
  clear HC HF hF8
  go_wp2
  go_ret
  exact ⟨rfl, HF8.out⟩
end Go.Proofs.Ytdponkpgokncdaa
