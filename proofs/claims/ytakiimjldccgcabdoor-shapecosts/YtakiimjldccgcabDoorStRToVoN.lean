/-
  A struct stored over a whole block: what the block holds then.
-/
import Derived.Test.YtakiimjldccgcabDoorShBToRgt
import Derived.Deep.MidRow
import Derived.Deep.Upon
import Derived.Lib.BufferMore
import Derived.Laws.Rows
import Derived.WalkKit
namespace Go.Proofs.YtakiimjldccgcabDoor
open Go.RowKit Go.Lib

theorem heap_setCells_at (b : Nat) (t : TypeId) (fr : Nat × Nat) : ∀ (vs : List Value) (o : Nat) (w : World) (cs : Array Value), w.heap[b]? = some (.cells cs t fr) →
    ∃ cs', (w.setCells b o vs).heap[b]? = some (.cells cs' t fr) ∧ cs'.size = cs.size ∧ ∀ j, j < cs.size → cs'[j]? = if o ≤ j ∧ j < o + vs.length then vs[j - o]? else cs[j]? := by
  intro vs
  induction vs with
  | nil => intro o w cs h; exact ⟨cs, h, rfl, fun j _ => by rw [if_neg (by simp only [List.length_nil]; omega)]⟩
  | cons v vs ih =>
    intro o w cs h
    obtain ⟨cs', h1, h2, h3⟩ := ih (o + 1) (w.setCell ⟨b, o, none⟩ v) (cs.setIfInBounds o v) (Go.Lib.heap_setCell_same h v)
    refine ⟨cs', h1, by simpa using h2, fun j hj => ?_⟩
    rw [h3 j (by simpa using hj)]
    simp only [List.length_cons]
    by_cases e : j = o
    · subst e
      rw [if_neg (by omega), if_pos (by omega), Array.getElem?_setIfInBounds, if_pos rfl, if_pos hj, Nat.sub_self]
      rfl
    · by_cases e2 : o + 1 ≤ j ∧ j < o + 1 + vs.length
      · rw [if_pos e2, if_pos (by omega), show j - o = (j - (o + 1)) + 1 by omega]
        rfl
      · rw [if_neg e2, if_neg (by omega), Array.getElem?_setIfInBounds, if_neg (by omega)]
theorem heap_setCells_whole {w : World} {b : Nat} {t : TypeId} {fr : Nat × Nat} {cs vs : Array Value} (h : w.heap[b]? = some (.cells cs t fr)) (hl : cs.size = vs.size) : (w.setCells b 0 vs.toList).heap[b]? = some (.cells vs t fr) := by
  obtain ⟨cs', h1, h2, h3⟩ := heap_setCells_at b t fr vs.toList 0 w cs h
  have : cs' = vs := by
    apply Array.ext_getElem?
    intro j
    rcases Nat.lt_or_ge j cs.size with e | e
    · rw [h3 j e, if_pos ⟨Nat.zero_le _, by simp; omega⟩]
      simp
    · rw [Array.getElem?_eq_none (by omega), Array.getElem?_eq_none (by omega)]
  rw [h1, this]
theorem kept_setCells (w : World) (b o : Nat) (vs : List Value) : Kept (fun x => x = b) w (w.setCells b o vs) := by
  induction vs generalizing w o with
  | nil => exact Kept.refl _ _
  | cons v vs ih => exact ((Kept.refl (fun x => x = b) w).setCell (p := ⟨b, o, none⟩) (fun _ => rfl) v).trans (ih (w.setCell ⟨b, o, none⟩ v) (o + 1)) (fun _ _ e => e)
theorem there_of {w : World} {b : Nat} {cs : Array Value} {t : TypeId} (h : w.heap[b]? = some (.cells cs t (0, 0))) : w.there b 0 cs.size := fun j hj => by
  refine ⟨?_, ?_⟩
  · rw [Lib.cell_of_heap h]
    simp [hj]
  · exact Lib.frozen_of_heap h _
section
variable {P : Program} {ops : Array Oper} {Q : Exit → Act → World → Prop}
theorem tail_store {op : Oper} {r : List Oper} {a : Act} {w : World} (hgd : op.guard = none) (ty : TypeId) (x y : Operand) (ho : op.op = .store ty x y) (b : Nat) (cells old : Array Value) (t : TypeId)
    (hx : a.eval x = .pointer (some ⟨b, 0, none⟩)) (hy : a.eval y = .agg cells) (hb : w.heap[b]? = some (.cells old t (0, 0))) (hsz : old.size = cells.size) (hi : (P.info? ty).map (·.size) = some cells.size) (h1 : cells.all (·.oneCell') = true)
    (h : ∀ Y, Y.heap[b]? = some (.cells cells t (0, 0)) → Kept (fun z => z = b) w Y → wpTail P ops Q r (a.put op.dst undef) Y) : wpTail P ops Q (op :: r) a w := by
  unfold wpTail
  rw [if_pos (by unfold Region.wanted; rw [hgd])]
  exact wp_store_mid ty x y ho b 0 cells hx hy (hsz ▸ there_of hb) hi h1 (h _ (heap_setCells_whole hb hsz) (kept_setCells _ _ _ _))
theorem list_store {op : Oper} {r : List Oper} {a : Act} {w : World} (hgd : op.guard = none) (ty : TypeId) (x y : Operand) (ho : op.op = .store ty x y) (b : Nat) (cells old : Array Value) (t : TypeId)
    (hx : a.eval x = .pointer (some ⟨b, 0, none⟩)) (hy : a.eval y = .agg cells) (hb : w.heap[b]? = some (.cells old t (0, 0))) (hsz : old.size = cells.size) (hi : (P.info? ty).map (·.size) = some cells.size) (h1 : cells.all (·.oneCell') = true)
    (h : ∀ Y, Y.heap[b]? = some (.cells cells t (0, 0)) → Kept (fun z => z = b) w Y → wpList P ops Q r (a.put op.dst undef) Y) : wpList P ops Q (op :: r) a w :=
  wpList_store_mid hgd ty x y ho b 0 cells hx hy (hsz ▸ there_of hb) hi h1 (h _ (heap_setCells_whole hb hsz) (kept_setCells _ _ _ _))
theorem tail_nil {a : Act} {w : World} (h : Q .normal a w) : wpTail P ops Q [] a w := h
/-- A struct in memory as the only result. -/
theorem ret_cell {fn : Func} {R : Ending → World → Prop} {a : Act} {w : World} {p : Tmp} {ty : TypeId} (h : fn.results = #[.cell p ty]) (g : Nat) (t : TypeId) (cs : Array Value) (fr : Nat × Nat) (d : TypeDesc)
    (hp : a.tmps.getD p undef = .pointer (some ⟨g, 0, none⟩)) (hg : w.heap[g]? = some (.cells cs t fr))
    (hu : P.underlying ty = some d) (hd : (match d with | .struct _ | .array _ _ => true | _ => false) = true) (hi : (P.info? ty).map (·.size) = some cs.size) (hdf : a.defers = []) (hR : R (.returned (.agg cs)) w) : bodyPost P fn R .ret a w :=
  bodyPost_ret (results_cell_row h _ w g t cs fr d hp hg hu hd hi) hdf hR
end
end Go.Proofs.YtakiimjldccgcabDoor

/-
  Half and Numbers, the package's and the document's; the sizes of the parts of a right shape.
-/
namespace Go.Proofs.YtakiimjldccgcabDoor
open Go.RowKit Go.Lib Go.Maps

theorem shH_ok {s : Shp} (h : shB s = true) : shH s = s.d / s.h / 2 := if_pos h
theorem shH_bad {s : Shp} (h : shB s = false) : shH s = 0 := if_neg (by rw [h]; decide)
set_option maxHeartbeats 1000000 in
theorem Half_any (s : Shp) (w : World) : Calls Tryd.prog 23 #[s.val] w fun e w' => e = .returned (zV (shH s)) ∧ Fresh w w' := by
  have hF1 : Fresh w (w.alloc (.cells #[zV s.v, zV s.c, zV s.d, zV s.h, zV s.l, zV s.n] 23)) := (Kept.refl _ w).alloc _
  have HF : Hid (Fresh w ((w.alloc (.cells #[zV s.v, zV s.c, zV s.d, zV s.h, zV s.l, zV s.n] 23)).alloc (.cells #[zV s.v, zV s.c, zV s.d, zV s.h, zV s.l, zV s.n] 23))) := hF1.alloc _
  have HC := show Hid _ from Check_any s (w.alloc (.cells #[zV s.v, zV s.c, zV s.d, zV s.h, zV s.l, zV s.n] 23))
  cases hb : shB s with
  | false =>
    rw [shE_bad hb] at HC
    rw [shH_bad hb]
    unfold Shp.val at *
    clear hb hF1
    go_enter Tryd.func23, Tryd.ntmps23
    go_wp2_with fail
    refine Calls.mono HC.out ?_
    rintro e X ⟨rfl, rfl⟩
    go_wp2
    go_ret
    exact ⟨rfl, HF.out⟩
  | true =>
    obtain ⟨V, C, D, L, N, P, e1, e2, e3, e4, e5, e6, _, _, _, _, a1, a2, _, _, _, _, a3, a4, a5, a6⟩ := shB_sizes hb
    rw [shE_ok hb] at HC
    rw [shH_ok hb]
    obtain ⟨q1, q2⟩ := ic_quot (d := s.d) (h := s.h) (by omega) (by omega)
    unfold Shp.val at *
    clear hb hF1 e1 e2 e4 e5 e6
    obtain ⟨v, c, d, h, l, n⟩ := s
    simp only at e3 q1 q2 a5 a6
    have hz2 : ¬ h = 0 := by omega
    have hd1 : 2 ≤ d := by omega
    have hd2 : d ≤ 64 := by omega
    clear e3 a1 a2 a3 a4
    go_enter Tryd.func23, Tryd.ntmps23
    go_wp2_with fail
    refine Calls.mono HC.out ?_
    rintro e X ⟨rfl, rfl⟩
    go_wp2
    go_ret
    exact ⟨rfl, HF.out⟩
set_option maxHeartbeats 1000000 in
theorem refHalf_any (s : Shp) (w : World) : Calls Tryd.prog 52 #[s.val] w fun e w' => e = .returned (zV (shH s)) ∧ Fresh w w' := by
  have hF1 : Fresh w (w.alloc (.cells #[zV s.v, zV s.c, zV s.d, zV s.h, zV s.l, zV s.n] 33)) := (Kept.refl _ w).alloc _
  have HF : Hid (Fresh w ((w.alloc (.cells #[zV s.v, zV s.c, zV s.d, zV s.h, zV s.l, zV s.n] 33)).alloc (.cells #[zV s.v, zV s.c, zV s.d, zV s.h, zV s.l, zV s.n] 33))) := hF1.alloc _
  have HC := show Hid _ from refCheck16_any s (w.alloc (.cells #[zV s.v, zV s.c, zV s.d, zV s.h, zV s.l, zV s.n] 33))
  cases hb : shB s with
  | false =>
    rw [shE_bad hb] at HC
    rw [shH_bad hb]
    unfold Shp.val at *
    clear hb hF1
    go_enter Tryd.func52, Tryd.ntmps52
    go_wp2_with fail
    refine Calls.mono HC.out ?_
    rintro e X ⟨rfl, rfl⟩
    go_wp2
    go_ret
    exact ⟨rfl, HF.out⟩
  | true =>
    obtain ⟨V, C, D, L, N, P, e1, e2, e3, e4, e5, e6, _, _, _, _, a1, a2, _, _, _, _, a3, a4, a5, a6⟩ := shB_sizes hb
    rw [shE_ok hb] at HC
    rw [shH_ok hb]
    obtain ⟨q1, q2⟩ := ic_quot (d := s.d) (h := s.h) (by omega) (by omega)
    unfold Shp.val at *
    clear hb hF1 e1 e2 e4 e5 e6
    obtain ⟨v, c, d, h, l, n⟩ := s
    simp only at e3 q1 q2 a5 a6
    have hz2 : ¬ h = 0 := by omega
    have hd1 : 2 ≤ d := by omega
    have hd2 : d ≤ 64 := by omega
    clear e3 a1 a2 a3 a4
    go_enter Tryd.func52, Tryd.ntmps52
    go_wp2_with fail
    refine Calls.mono HC.out ?_
    rintro e X ⟨rfl, rfl⟩
    go_wp2
    go_ret
    exact ⟨rfl, HF.out⟩
/-- The sizes of the parts of a right shape. -/
structure Rsh (s : Shp) (V C D L N P : Nat) : Prop where
  ok : shB s = true
  v : s.v = V
  c : s.c = C
  d : s.d = D
  l : s.l = L
  n : s.n = N
  p : s.d / s.h / 2 = P
  v1 : 2 ≤ V ∧ V ≤ 512
  c1 : 1 ≤ C ∧ C ≤ 512
  d1 : 2 ≤ D ∧ D ≤ 64
  l1 : 1 ≤ L ∧ L ≤ 8
  n1 : 1 ≤ N ∧ N ≤ 256
  p1 : 1 ≤ P ∧ P ≤ 32
theorem rsh_of {s : Shp} (h : shB s = true) : ∃ V C D L N P, Rsh s V C D L N P := by
  obtain ⟨V, C, D, L, N, P, e1, e2, e3, e4, e5, e6, a1, a2, a3, a4, a5, a6, a7, a8, a9, b1, b2, b3, _, _⟩ := shB_sizes h
  exact ⟨V, C, D, L, N, P, h, e1, e2, e3, e4, e5, e6, ⟨a1, a2⟩, ⟨a3, a4⟩, ⟨a5, a6⟩, ⟨a7, a8⟩, ⟨a9, b1⟩, ⟨b2, b3⟩⟩
theorem box2 (w : World) (c1 c2 : Array Value) (t1 t2 : TypeId) : ∀ X, Fresh ((w.alloc (.cells c1 t1)).alloc (.cells c2 t2)) X → Fresh w X ∧ X.heap[w.heap.size]? = some (.cells c1 t1 (0, 0)) ∧ X.heap[w.heap.size + 1]? = some (.cells c2 t2 (0, 0)) := fun X hk => by
  have h1 : Fresh w ((w.alloc (.cells c1 t1)).alloc (.cells c2 t2)) := ((Kept.refl _ w).alloc _).alloc _
  have h2 : Fresh (w.alloc (.cells c1 t1)) ((w.alloc (.cells c1 t1)).alloc (.cells c2 t2)) := (Kept.refl _ _).alloc _
  have h3 := heap_alloc_new (w.alloc (.cells c1 t1)) (.cells c2 t2)
  rw [World.size_alloc] at h3
  exact ⟨h1.trans hk (fun _ _ e => e), hk.at (h2.at (heap_alloc_new w (.cells c1 t1)) (fun e => e)) (fun e => e), hk.at h3 (fun e => e)⟩
theorem nat_mul_le {a b m n : Nat} (h1 : a ≤ m) (h2 : b ≤ n) : a * b ≤ m * n := Nat.mul_le_mul h1 h2
set_option maxHeartbeats 4000000 in
set_option maxRecDepth 100000 in
theorem sizesOf_any (s : Shp) (V C D L N P : Nat) (w : World) (hs : Rsh s V C D L N P) : Calls Tryd.prog 25 #[s.val] w fun e w' => e = .returned (.agg #[zV ((V * D : Nat) : Int), zV ((C * P : Nat) : Int), zV (D : Int), zV ((D * D : Nat) : Int), zV ((N * D : Nat) : Int)]) ∧ Fresh w w' := by
  obtain ⟨v1, v2⟩ := hs.v1
  obtain ⟨c1, c2⟩ := hs.c1
  obtain ⟨d1, d2⟩ := hs.d1
  obtain ⟨n1, n2⟩ := hs.n1
  obtain ⟨p1, p2⟩ := hs.p1
  have m1 : V * D ≤ 32768 := nat_mul_le v2 d2
  have m2 : C * P ≤ 16384 := nat_mul_le c2 p2
  have m3 : D * D ≤ 4096 := nat_mul_le d2 d2
  have m4 : N * D ≤ 16384 := nat_mul_le n2 d2
  have e1 : ((V : Int) * (D : Int)) = ((V * D : Nat) : Int) := (Int.natCast_mul V D).symm
  have e2 : ((C : Int) * (P : Int)) = ((C * P : Nat) : Int) := (Int.natCast_mul C P).symm
  have e3 : ((D : Int) * (D : Int)) = ((D * D : Nat) : Int) := (Int.natCast_mul D D).symm
  have e4 : ((N : Int) * (D : Int)) = ((N * D : Nat) : Int) := (Int.natCast_mul N D).symm
  generalize V * D = A1 at *
  generalize C * P = A2 at *
  generalize D * D = A3 at *
  generalize N * D = A4 at *
  have w1 : IntKind.i64.wrap (A1 : Int) = A1 := by rw [IntKind.wrap_i64]; omega
  have w2 : IntKind.i64.wrap (A2 : Int) = A2 := by rw [IntKind.wrap_i64]; omega
  have w3 : IntKind.i64.wrap (A3 : Int) = A3 := by rw [IntKind.wrap_i64]; omega
  have w4 : IntKind.i64.wrap (A4 : Int) = A4 := by rw [IntKind.wrap_i64]; omega
  have HH : Hid (∀ W, Calls Tryd.prog 23 #[s.val] W fun e w' => e = .returned (zV (P : Int)) ∧ Fresh W w') := fun W => by
    have := Half_any s W
    rwa [shH_ok hs.ok, hs.p] at this
  obtain ⟨f1, f2, f3, f4, f5⟩ := And.intro hs.v (And.intro hs.c (And.intro hs.d (And.intro hs.l hs.n)))
  obtain ⟨v, c, d, h, l, n⟩ := s
  simp only at f1 f2 f3 f4 f5
  subst f1 f2 f3 f4 f5
  clear hs
  unfold Shp.val at *
  go_enter Tryd.func25, Tryd.ntmps25
  go_upto_region 1 with fail
  simp only [] at HH
  have HX : Hid (∀ X, Fresh ((w.alloc (.cells #[zV (V : Int), zV (C : Int), zV (D : Int), zV h, zV (L : Int), zV (N : Int)] 23)).alloc (.cells #[.int .i64 0, .int .i64 0, .int .i64 0, .int .i64 0, .int .i64 0] 81)) X → Fresh w X ∧ X.cell? ⟨w.heap.size, 0, none⟩ = some (zV (V : Int)) ∧ X.cell? ⟨w.heap.size, 1, none⟩ = some (zV (C : Int)) ∧ X.cell? ⟨w.heap.size, 2, none⟩ = some (zV (D : Int)) ∧ X.cell? ⟨w.heap.size, 3, none⟩ = some (zV h) ∧ X.cell? ⟨w.heap.size, 4, none⟩ = some (zV (L : Int)) ∧ X.cell? ⟨w.heap.size, 5, none⟩ = some (zV (N : Int)) ∧ X.heap[w.heap.size + 1]? = some (.cells #[.int .i64 0, .int .i64 0, .int .i64 0, .int .i64 0, .int .i64 0] 81 (0, 0))) := fun X hX => by
    obtain ⟨h1, h2, h3⟩ := box2 w #[zV (V : Int), zV (C : Int), zV (D : Int), zV h, zV (L : Int), zV (N : Int)] #[.int .i64 0, .int .i64 0, .int .i64 0, .int .i64 0, .int .i64 0] 23 81 X hX
    exact ⟨h1, by rw [Lib.cell_of_heap h2]; rfl, by rw [Lib.cell_of_heap h2]; rfl, by rw [Lib.cell_of_heap h2]; rfl, by rw [Lib.cell_of_heap h2]; rfl, by rw [Lib.cell_of_heap h2]; rfl, by rw [Lib.cell_of_heap h2]; rfl, h3⟩
  generalize (w.alloc (.cells #[zV (V : Int), zV (C : Int), zV (D : Int), zV h, zV (L : Int), zV (N : Int)] 23)).alloc (.cells #[.int .i64 0, .int .i64 0, .int .i64 0, .int .i64 0, .int .i64 0] 81) = W0 at *
  have K1 : Hid (∀ d : Nw W0, Calls Tryd.prog 23 #[.agg #[zV (V : Int), zV (C : Int), zV (D : Int), zV h, zV (L : Int), zV (N : Int)]] d.w fun e w' => e = .returned (zV (P : Int)) ∧ Fresh d.w w') := fun d => HH.out d.w
  have u0 : ∀ d : Nw W0, d.w.cell? ⟨w.heap.size, 0, none⟩ = some (zV (V : Int)) := fun d => (HX.out d.w d.f).2.1
  have u1 : ∀ d : Nw W0, d.w.cell? ⟨w.heap.size, 1, none⟩ = some (zV (C : Int)) := fun d => (HX.out d.w d.f).2.2.1
  have u2 : ∀ d : Nw W0, d.w.cell? ⟨w.heap.size, 2, none⟩ = some (zV (D : Int)) := fun d => (HX.out d.w d.f).2.2.2.1
  have u3 : ∀ d : Nw W0, d.w.cell? ⟨w.heap.size, 3, none⟩ = some (zV h) := fun d => (HX.out d.w d.f).2.2.2.2.1
  have u4 : ∀ d : Nw W0, d.w.cell? ⟨w.heap.size, 4, none⟩ = some (zV (L : Int)) := fun d => (HX.out d.w d.f).2.2.2.2.2.1
  have u5 : ∀ d : Nw W0, d.w.cell? ⟨w.heap.size, 5, none⟩ = some (zV (N : Int)) := fun d => (HX.out d.w d.f).2.2.2.2.2.2.1
  refine wp_region_tail 23 (by kernel_rfl) (by simp) (by kernel_rfl) (by kernel_rfl) ?_
  simp only [List.take_succ_cons, List.take_zero]
  haveI : Nonempty (Nw W0) := nw_some W0
  repeat (go_big_quiet_step (with_reducible exact Calls.new_of (K1.out _)))
  refine wpQuiet_nil ?_
  intro _ hw'
  obtain ⟨d, hw''⟩ := hw'
  subst hw''
  have hd := d.f
  simp only [List.drop_succ_cons, List.drop_zero]
  refine tail_store rfl 81 _ _ rfl (w.heap.size + 1) _ #[.int .i64 0, .int .i64 0, .int .i64 0, .int .i64 0, .int .i64 0] 81 rfl rfl ((HX.out d.w d.f).2.2.2.2.2.2.2) rfl (by kernel_rfl) (by simp [Value.oneCell']) ?_
  intro Y hY hk
  refine tail_nil ?_
  have HF : Hid (Fresh w Y) := (HX.out d.w d.f).1.trans hk (fun i hi e => by
    have e' : i = w.heap.size + 1 := e
    omega)
  clear hk hd u0 u1 u2 u3 u4 u5 K1 HX
  go_wp2
  exact ret_cell rfl (w.heap.size + 1) _ _ _ _ rfl hY Tryd.underlying81 rfl (by kernel_rfl) rfl ⟨rfl, HF.out⟩
theorem shN_rsh {s : Shp} {V C D L N P : Nat} (hs : Rsh s V C D L N P) : shN s = ((2 * (V * D) + 2 * (C * P) + L * (2 * D + 4 * (D * D) + 3 * (N * D)) + 256 + D : Nat) : Int) := by
  unfold shN
  rw [if_pos hs.ok, hs.v, hs.c, hs.p, hs.l, hs.n, hs.d]
  simp only [Int.natCast_add, Int.natCast_mul]
  rfl
theorem shN_bad {s : Shp} (h : shB s = false) : shN s = 0 := if_neg (by rw [h]; decide)
/-- How many numbers a block has at most. -/
theorem blk_le {D N L : Nat} (d2 : D ≤ 64) (n2 : N ≤ 256) (l2 : L ≤ 8) : L * (2 * D + 4 * (D * D) + 3 * (N * D)) ≤ 525312 := by
  have m3 : D * D ≤ 4096 := nat_mul_le d2 d2
  have m4 : N * D ≤ 16384 := nat_mul_le n2 d2
  exact Nat.le_trans (nat_mul_le l2 (show _ ≤ 65664 by omega)) (by decide)
set_option maxHeartbeats 4000000 in
set_option maxRecDepth 100000 in
theorem Numbers_any (s : Shp) (w : World) : Calls Tryd.prog 22 #[s.val] w fun e w' => e = .returned (.tuple #[zV (shN s), zV (shE s)]) ∧ Fresh w w' := by
  have hF1 : Fresh w (w.alloc (.cells #[zV s.v, zV s.c, zV s.d, zV s.h, zV s.l, zV s.n] 23)) := (Kept.refl _ w).alloc _
  have HF : Hid (Fresh w ((w.alloc (.cells #[zV s.v, zV s.c, zV s.d, zV s.h, zV s.l, zV s.n] 23)).alloc (.cells #[zV s.v, zV s.c, zV s.d, zV s.h, zV s.l, zV s.n] 23))) := hF1.alloc _
  have HC := show Hid _ from Check_any s (w.alloc (.cells #[zV s.v, zV s.c, zV s.d, zV s.h, zV s.l, zV s.n] 23))
  cases hb : shB s with
  | false =>
    rw [shE_bad hb] at HC
    rw [shN_bad hb, shE_bad hb]
    unfold Shp.val at *
    clear hb hF1
    go_enter Tryd.func22, Tryd.ntmps22
    go_wp2_with fail
    refine Calls.mono HC.out ?_
    rintro e X ⟨rfl, rfl⟩
    go_wp2
    go_ret2
    exact ⟨rfl, HF.out⟩
  | true =>
    obtain ⟨V, C, D, L, N, P, hs⟩ := rsh_of hb
    rw [shE_ok hb] at HC
    rw [shN_rsh hs, shE_ok hb]
    have HX : Hid (∀ X, Fresh ((w.alloc (.cells #[zV s.v, zV s.c, zV s.d, zV s.h, zV s.l, zV s.n] 23)).alloc (.cells #[zV s.v, zV s.c, zV s.d, zV s.h, zV s.l, zV s.n] 23)) X → Fresh w X ∧ X.cell? ⟨w.heap.size, 4, none⟩ = some (zV (L : Int))) := fun X hX => by
      obtain ⟨h1, h2, h3⟩ := box2 w #[zV s.v, zV s.c, zV s.d, zV s.h, zV s.l, zV s.n] #[zV s.v, zV s.c, zV s.d, zV s.h, zV s.l, zV s.n] 23 23 X hX
      exact ⟨h1, by rw [Lib.cell_of_heap h2, ← hs.l]; rfl⟩
    have HS := show Hid _ from sizesOf_any s V C D L N P ((w.alloc (.cells #[zV s.v, zV s.c, zV s.d, zV s.h, zV s.l, zV s.n] 23)).alloc (.cells #[zV s.v, zV s.c, zV s.d, zV s.h, zV s.l, zV s.n] 23)) hs
    obtain ⟨v1, v2⟩ := hs.v1
    obtain ⟨c1, c2⟩ := hs.c1
    obtain ⟨d1, d2⟩ := hs.d1
    obtain ⟨n1, n2⟩ := hs.n1
    obtain ⟨p1, p2⟩ := hs.p1
    obtain ⟨l1, l2⟩ := hs.l1
    have m1 : V * D ≤ 32768 := nat_mul_le v2 d2
    have m2 : C * P ≤ 16384 := nat_mul_le c2 p2
    have m3 : D * D ≤ 4096 := nat_mul_le d2 d2
    have m4 : N * D ≤ 16384 := nat_mul_le n2 d2
    have m5 := blk_le d2 n2 l2
    have e5 : (L : Int) * (2 * (D : Int) + 4 * ((D * D : Nat) : Int) + 3 * ((N * D : Nat) : Int)) = ((L * (2 * D + 4 * (D * D) + 3 * (N * D)) : Nat) : Int) := by push_cast; rfl
    generalize L * (2 * D + 4 * (D * D) + 3 * (N * D)) = G at *
    generalize V * D = A1 at *
    generalize C * P = A2 at *
    generalize D * D = A3 at *
    generalize N * D = A4 at *
    unfold Shp.val at *
    clear hb hF1 hs HF
    go_enter Tryd.func22, Tryd.ntmps22
    go_wp2_with fail
    refine Calls.mono HC.out ?_
    rintro e X ⟨rfl, rfl⟩
    go_wp2_with fail
    refine Calls.mono HS.out ?_
    rintro e X ⟨rfl, hX⟩
    obtain ⟨x0, x1⟩ := HX.out X hX
    have HFX : Hid (Fresh w X) := x0
    have hlt : w.heap.size < X.heap.size := by simpa using World.block_lt_of_cell? X _ x1
    have hne : w.heap.size ≠ X.heap.size := by omega
    clear hX x0 HX HS HC
    go_wp2
    go_ret2
    refine ⟨?_, HFX.out.alloc _⟩
    congr 5
set_option maxHeartbeats 4000000 in
set_option maxRecDepth 100000 in
theorem refNumbers_any (s : Shp) (w : World) : Calls Tryd.prog 27 #[s.val] w fun e w' => e = .returned (.tuple #[zV (shN s), zV (shE s)]) ∧ Fresh w w' := by
  have hF1 : Fresh w (w.alloc (.cells #[zV s.v, zV s.c, zV s.d, zV s.h, zV s.l, zV s.n] 33)) := (Kept.refl _ w).alloc _
  have HF : Hid (Fresh w ((w.alloc (.cells #[zV s.v, zV s.c, zV s.d, zV s.h, zV s.l, zV s.n] 33)).alloc (.cells #[zV s.v, zV s.c, zV s.d, zV s.h, zV s.l, zV s.n] 33))) := hF1.alloc _
  have HC := show Hid _ from refCheck16_any s (w.alloc (.cells #[zV s.v, zV s.c, zV s.d, zV s.h, zV s.l, zV s.n] 33))
  cases hb : shB s with
  | false =>
    rw [shE_bad hb] at HC
    rw [shN_bad hb, shE_bad hb]
    unfold Shp.val at *
    clear hb hF1
    go_enter Tryd.func27, Tryd.ntmps27
    go_wp2_with fail
    refine Calls.mono HC.out ?_
    rintro e X ⟨rfl, rfl⟩
    go_wp2
    go_ret2
    exact ⟨rfl, HF.out⟩
  | true =>
    obtain ⟨V, C, D, L, N, P, hs⟩ := rsh_of hb
    rw [shE_ok hb] at HC
    rw [shN_rsh hs, shE_ok hb]
    have HX : Hid (∀ X, Fresh ((w.alloc (.cells #[zV s.v, zV s.c, zV s.d, zV s.h, zV s.l, zV s.n] 33)).alloc (.cells #[zV s.v, zV s.c, zV s.d, zV s.h, zV s.l, zV s.n] 33)) X → Fresh w X ∧ X.cell? ⟨w.heap.size, 0, none⟩ = some (zV s.v) ∧ X.cell? ⟨w.heap.size, 1, none⟩ = some (zV s.c) ∧ X.cell? ⟨w.heap.size, 2, none⟩ = some (zV s.d) ∧ X.cell? ⟨w.heap.size, 3, none⟩ = some (zV s.h) ∧ X.cell? ⟨w.heap.size, 4, none⟩ = some (zV s.l) ∧ X.cell? ⟨w.heap.size, 5, none⟩ = some (zV s.n)) := fun X hX => by
      obtain ⟨h1, h2, h3⟩ := box2 w #[zV s.v, zV s.c, zV s.d, zV s.h, zV s.l, zV s.n] #[zV s.v, zV s.c, zV s.d, zV s.h, zV s.l, zV s.n] 33 33 X hX
      exact ⟨h1, by rw [Lib.cell_of_heap h2]; rfl, by rw [Lib.cell_of_heap h2]; rfl, by rw [Lib.cell_of_heap h2]; rfl, by rw [Lib.cell_of_heap h2]; rfl, by rw [Lib.cell_of_heap h2]; rfl, by rw [Lib.cell_of_heap h2]; rfl⟩
    have HH : Hid (∀ W, Calls Tryd.prog 52 #[s.val] W fun e w' => e = .returned (zV (P : Int)) ∧ Fresh W w') := fun W => by
      have := refHalf_any s W
      rwa [shH_ok hs.ok, hs.p] at this
    obtain ⟨v1, v2⟩ := hs.v1
    obtain ⟨c1, c2⟩ := hs.c1
    obtain ⟨d1, d2⟩ := hs.d1
    obtain ⟨n1, n2⟩ := hs.n1
    obtain ⟨p1, p2⟩ := hs.p1
    obtain ⟨l1, l2⟩ := hs.l1
    have m1 : V * D ≤ 32768 := nat_mul_le v2 d2
    have m2 : C * P ≤ 16384 := nat_mul_le c2 p2
    have m3 : D * D ≤ 4096 := nat_mul_le d2 d2
    have m4 : N * D ≤ 16384 := nat_mul_le n2 d2
    have m5 := blk_le d2 n2 l2
    obtain ⟨f1, f2, f3, f4, f5⟩ := And.intro hs.v (And.intro hs.c (And.intro hs.d (And.intro hs.l hs.n)))
    clear hs
    obtain ⟨v, c, d, h, l, n⟩ := s
    simp only at f1 f2 f3 f4 f5
    subst f1 f2 f3 f4 f5
    simp only [] at HH HX HC
    unfold Shp.val at *
    simp only [] at HH HX HC
    have e1 : 2 * (V : Int) * (D : Int) = ((2 * (V * D) : Nat) : Int) := by push_cast; rw [Int.mul_assoc]
    have e2 : 2 * (C : Int) * (P : Int) = ((2 * (C * P) : Nat) : Int) := by push_cast; rw [Int.mul_assoc]
    have e3 : 4 * (D : Int) * (D : Int) = ((4 * (D * D) : Nat) : Int) := by push_cast; rw [Int.mul_assoc]
    have e4 : 3 * (D : Int) * (N : Int) = ((3 * (N * D) : Nat) : Int) := by push_cast; rw [Int.mul_assoc, Int.mul_comm (D : Int) (N : Int)]
    obtain ⟨B1, hB1⟩ : ∃ B, 2 * (V * D) = B := ⟨_, rfl⟩
    obtain ⟨B2, hB2⟩ : ∃ B, 2 * (C * P) = B := ⟨_, rfl⟩
    obtain ⟨B3, hB3⟩ : ∃ B, 4 * (D * D) = B := ⟨_, rfl⟩
    obtain ⟨B4, hB4⟩ : ∃ B, 3 * (N * D) = B := ⟨_, rfl⟩
    have b1 : B1 ≤ 65536 := by omega
    have b2 : B2 ≤ 32768 := by omega
    have b3 : B3 ≤ 16384 := by omega
    have b4 : B4 ≤ 49152 := by omega
    rw [hB1] at e1
    rw [hB2] at e2
    rw [hB3] at e3
    rw [hB4] at e4
    rw [hB3, hB4] at m5
    rw [hB1, hB2, hB3, hB4]
    have e5 : (L : Int) * (2 * (D : Int) + (B3 : Int) + (B4 : Int)) = ((L * (2 * D + B3 + B4) : Nat) : Int) := by push_cast; rfl
    generalize L * (2 * D + B3 + B4) = G at *
    clear hB1 hB2 hB3 hB4 m1 m2 m3 m4 hF1 HF hb
    have w1 : IntKind.i64.wrap (B1 : Int) = B1 := by rw [IntKind.wrap_i64]; omega
    have w2 : IntKind.i64.wrap (B2 : Int) = B2 := by rw [IntKind.wrap_i64]; omega
    have w3 : IntKind.i64.wrap (B3 : Int) = B3 := by rw [IntKind.wrap_i64]; omega
    have w4 : IntKind.i64.wrap (B4 : Int) = B4 := by rw [IntKind.wrap_i64]; omega
    have w5 : IntKind.i64.wrap (G : Int) = G := by rw [IntKind.wrap_i64]; omega
    have w6 : IntKind.i64.wrap (2 * (V : Int)) = 2 * (V : Int) := by rw [IntKind.wrap_i64]; omega
    have w7 : IntKind.i64.wrap (2 * (C : Int)) = 2 * (C : Int) := by rw [IntKind.wrap_i64]; omega
    have w8 : IntKind.i64.wrap ((B1 : Int) + (B2 : Int)) = (B1 : Int) + B2 := by rw [IntKind.wrap_i64]; omega
    have w9 : IntKind.i64.wrap ((B1 : Int) + (B2 : Int) + (G : Int)) = (B1 : Int) + B2 + G := by rw [IntKind.wrap_i64]; omega
    have wa : IntKind.i64.wrap ((B1 : Int) + (B2 : Int) + (G : Int) + 256) = (B1 : Int) + B2 + G + 256 := by rw [IntKind.wrap_i64]; omega
    have wb : IntKind.i64.wrap ((B1 : Int) + (B2 : Int) + (G : Int) + 256 + (D : Int)) = (B1 : Int) + B2 + G + 256 + D := by rw [IntKind.wrap_i64]; omega
    go_enter Tryd.func27, Tryd.ntmps27
    go_wp2_with fail
    refine Calls.mono HC.out ?_
    rintro e X ⟨rfl, rfl⟩
    clear HC
    go_upto_region 5 with fail
    generalize (w.alloc (.cells #[zV (V : Int), zV (C : Int), zV (D : Int), zV h, zV (L : Int), zV (N : Int)] 33)).alloc (.cells #[zV (V : Int), zV (C : Int), zV (D : Int), zV h, zV (L : Int), zV (N : Int)] 33) = W0 at *
    have K1 : Hid (∀ d : Nw W0, Calls Tryd.prog 52 #[.agg #[zV (V : Int), zV (C : Int), zV (D : Int), zV h, zV (L : Int), zV (N : Int)]] d.w fun e w' => e = .returned (zV (P : Int)) ∧ Fresh d.w w') := fun d => HH.out d.w
    have u0 : ∀ d : Nw W0, d.w.cell? ⟨w.heap.size, 0, none⟩ = some (zV (V : Int)) := fun d => (HX.out d.w d.f).2.1
    have u1 : ∀ d : Nw W0, d.w.cell? ⟨w.heap.size, 1, none⟩ = some (zV (C : Int)) := fun d => (HX.out d.w d.f).2.2.1
    have u2 : ∀ d : Nw W0, d.w.cell? ⟨w.heap.size, 2, none⟩ = some (zV (D : Int)) := fun d => (HX.out d.w d.f).2.2.2.1
    have u3 : ∀ d : Nw W0, d.w.cell? ⟨w.heap.size, 3, none⟩ = some (zV h) := fun d => (HX.out d.w d.f).2.2.2.2.1
    have u4 : ∀ d : Nw W0, d.w.cell? ⟨w.heap.size, 4, none⟩ = some (zV (L : Int)) := fun d => (HX.out d.w d.f).2.2.2.2.2.1
    have u5 : ∀ d : Nw W0, d.w.cell? ⟨w.heap.size, 5, none⟩ = some (zV (N : Int)) := fun d => (HX.out d.w d.f).2.2.2.2.2.2
    haveI : Nonempty (Nw W0) := nw_some W0
    refine wp_region_new (by kernel_rfl) (by kernel_rfl) ?_
    repeat (go_big_quiet_step (with_reducible exact Calls.new_of (K1.out _)))
    refine wpQuiet_nil ?_
    intro _ hw'
    obtain ⟨d2, hw''⟩ := hw'
    subst hw''
    have HD2 : Hid (Fresh w d2.w) := (HX.out d2.w d2.f).1
    clear u0 u1 u2 u3 u4 u5 K1
    go_wp2
    go_ret2
    refine ⟨?_, HD2.out⟩
    congr 5
end Go.Proofs.YtakiimjldccgcabDoor

/-
  Numbers of layer 13: heaps of places, rows of tokens on their way, which vocabularies are right.
-/
namespace Go.Proofs.YtakiimjldccgcabDoor

/-- What stands at a place. -/
abbrev gI (L : List Int) (i : Nat) : Int := L.getD i 0
abbrev gT (T : List (List UInt8)) (i : Nat) : List UInt8 := T.getD i []
/-- Two places change what they hold. -/
def swp (L : List Int) (i j : Nat) : List Int := (L.set i (gI L j)).set j (gI L i)
theorem swp_len (L : List Int) (i j : Nat) : (swp L i j).length = L.length := by simp [swp]
/-- What stands at place i is brought up to where it belongs. -/
def upF : Nat → List Int → Nat → List Int
  | 0, L, _ => L
  | n + 1, L, i => if i = 0 then L else if gI L ((i - 1) / 2) ≤ gI L i then L else upF n (swp L ((i - 1) / 2) i) ((i - 1) / 2)
theorem upF_len : ∀ (n : Nat) (L : List Int) (i : Nat), (upF n L i).length = L.length
  | 0, _, _ => rfl
  | n + 1, L, i => by
    unfold upF
    split
    · rfl
    · split
      · rfl
      · rw [upF_len n, swp_len]
def putF (L : List Int) (x : Int) : List Int := upF L.length (L ++ [x]) L.length
theorem putF_len (L : List Int) (x : Int) : (putF L x).length = L.length + 1 := by simp [putF, upF_len]
/-- The lesser child of a place. -/
def chd (L : List Int) (i : Nat) : Nat := if 2 * i + 1 + 1 < L.length ∧ gI L (2 * i + 1 + 1) < gI L (2 * i + 1) then 2 * i + 1 + 1 else 2 * i + 1
theorem chd_gt (L : List Int) (i : Nat) : i < chd L i := by unfold chd; split <;> omega
/-- What stands at place i is brought down to where it belongs. -/
def dnF : Nat → List Int → Nat → List Int
  | 0, L, _ => L
  | n + 1, L, i => if L.length ≤ chd L i then L else if gI L i ≤ gI L (chd L i) then L else dnF n (swp L i (chd L i)) (chd L i)
theorem dnF_len : ∀ (n : Nat) (L : List Int) (i : Nat), (dnF n L i).length = L.length
  | 0, _, _ => rfl
  | n + 1, L, i => by
    unfold dnF
    split
    · rfl
    · split
      · rfl
      · rw [dnF_len n, swp_len]
/-- What is left behind the least was taken. -/
def tkF (L : List Int) : List Int := dnF L.length ((L.set 0 (gI L (L.length - 1))).take (L.length - 1)) 0
theorem tkF_len (L : List Int) : (tkF L).length = L.length - 1 := by simp [tkF, dnF_len]

/-- A merge. -/
structure Mg where
  l : Int
  r : Int
  o : Int
deriving DecidableEq
abbrev gM (M : List Mg) (i : Nat) : Mg := M.getD i ⟨0, 0, 0⟩
/-- The rank of a pair among the first merges. -/
def rkT (M : List Mg) : Nat → Int → Int → Option Nat
  | 0, _, _ => none
  | k + 1, a, b => if (gM M k).l = a ∧ (gM M k).r = b then some k else rkT M k a b
theorem rkT_lt (M : List Mg) : ∀ (k : Nat) (a b : Int) (i : Nat), rkT M k a b = some i → i < k
  | 0, _, _, _, h => by simp [rkT] at h
  | k + 1, a, b, i, h => by
    unfold rkT at h
    split at h
    · simp at h; omega
    · have := rkT_lt M k a b i h; omega
abbrev rkA (M : List Mg) (a b : Int) : Option Nat := rkT M M.length a b
/-- The token of a byte alone among the first texts; 0: there is none. -/
def alT (T : List (List UInt8)) : Nat → Nat → Int
  | 0, _ => 0
  | k + 1, b => if (gT T k).length = 1 ∧ ((gT T k).getD 0 0).toNat = b then (k : Int) else alT T k b

/-- A row of tokens on its way: tokens, what stands ahead, what is next, what waits. -/
structure Ro where
  t : List Int
  a : List Int
  n : List Int
  w : List (List Int)
abbrev gW (W : List (List Int)) (i : Nat) : List Int := W.getD i []
def nteF (M : List Mg) (R : Ro) (p : Nat) : Ro :=
  match rkA M (gI R.t p) (gI R.t (gI R.n p).toNat) with
  | some i => { R with w := R.w.set i (putF (gW R.w i) (p : Int)) }
  | none => R
/-- The first place at which a rank's merge can be applied, and what still waits. -/
def fstF (M : List Mg) (i : Nat) : Nat → Ro → Option Nat × Ro
  | 0, R => (none, R)
  | n + 1, R => match gW R.w i with
    | [] => (none, R)
    | x :: _ =>
      let R' : Ro := { R with w := R.w.set i (tkF (gW R.w i)) }
      if gI R.t x.toNat = (gM M i).l ∧ gI R.t (gI R.n x.toNat).toNat = (gM M i).r then (some x.toNat, R') else fstF M i n R'
def appF (M : List Mg) (R : Ro) (i p : Nat) : Ro :=
  let q := (gI R.n p).toNat
  let n' := R.n.set p (gI R.n q)
  let R1 : Ro := { t := (R.t.set p (gM M i).o).set q 0, n := n', a := R.a.set (gI n' p).toNat (p : Int), w := R.w }
  nteF M (nteF M R1 (gI R1.a p).toNat) p
end Go.Proofs.YtakiimjldccgcabDoor
