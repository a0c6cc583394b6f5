/-
  Which block is wrong: the walk.
-/
import Derived.Test.YtakiimjldccgcabDoorShHToShK
import Derived.Test.YtakiimjldccgcabDoorStRToVoN
namespace Go.Proofs.YtakiimjldccgcabDoor
open Go.RowKit Go.Lib Go.Maps

/-- A block's seventeen cells in memory. -/
def B17 (X : World) (b f : Nat) (g1 q k v o g2 : Value) (qs ks vs os ss : Int) (mg mu md : Value) (gs us ds : Int) : Prop :=
  X.cell? ⟨b, f, none⟩ = some g1 ∧ X.cell? ⟨b, f + 1, none⟩ = some q ∧ X.cell? ⟨b, f + 2, none⟩ = some k ∧ X.cell? ⟨b, f + 3, none⟩ = some v ∧ X.cell? ⟨b, f + 4, none⟩ = some o ∧ X.cell? ⟨b, f + 5, none⟩ = some g2 ∧
  X.cell? ⟨b, f + 6, none⟩ = some (zV qs) ∧ X.cell? ⟨b, f + 7, none⟩ = some (zV ks) ∧ X.cell? ⟨b, f + 8, none⟩ = some (zV vs) ∧ X.cell? ⟨b, f + 9, none⟩ = some (zV os) ∧ X.cell? ⟨b, f + 10, none⟩ = some (zV ss) ∧
  X.cell? ⟨b, f + 11, none⟩ = some mg ∧ X.cell? ⟨b, f + 12, none⟩ = some mu ∧ X.cell? ⟨b, f + 13, none⟩ = some md ∧ X.cell? ⟨b, f + 14, none⟩ = some (zV gs) ∧ X.cell? ⟨b, f + 15, none⟩ = some (zV us) ∧ X.cell? ⟨b, f + 16, none⟩ = some (zV ds)
theorem B17.of {X : World} {b f : Nat} {g1 q k v o g2 : Value} {qs ks vs os ss : Int} {mg mu md : Value} {gs us ds : Int} (h : ∀ j, j < 17 → X.cell? ⟨b, f + j, none⟩ = (blkC g1 q k v o g2 qs ks vs os ss mg mu md gs us ds)[j]?) : B17 X b f g1 q k v o g2 qs ks vs os ss mg mu md gs us ds :=
  ⟨h 0 (by omega), h 1 (by omega), h 2 (by omega), h 3 (by omega), h 4 (by omega), h 5 (by omega), h 6 (by omega), h 7 (by omega), h 8 (by omega), h 9 (by omega), h 10 (by omega), h 11 (by omega), h 12 (by omega), h 13 (by omega), h 14 (by omega), h 15 (by omega), h 16 (by omega)⟩
/-- Block i of a row, its cells and its rows' lengths. -/
theorem BkR.at {p : Nat → Prop} {W : World} {ao : Option Addr} {n c : Nat} {L : List Bk} (h : BkR p W (.slice ao n c) L) (h0 : 0 < L.length) : n = L.length ∧ n ≤ c ∧ ∃ b off, ao = some ⟨b, off, none⟩ ∧ ∀ X, Fresh W X → ∀ i, i < n → ∃ (a1 a2 a3 a4 a5 a6 a7 a8 a9 : Option Addr) (c1 c2 c3 c4 c5 c6 c7 c8 c9 : Nat), B17 X b (off + i * 17) (.slice a1 (gBk L i).g1.length c1) (.slice a2 (gBk L i).q.length c2) (.slice a3 (gBk L i).k.length c3) (.slice a4 (gBk L i).v.length c4) (.slice a5 (gBk L i).o.length c5) (.slice a6 (gBk L i).g2.length c6) (gBk L i).qs (gBk L i).ks (gBk L i).vs (gBk L i).os (gBk L i).ss (.slice a7 (gBk L i).mg.length c7) (.slice a8 (gBk L i).mu.length c8) (.slice a9 (gBk L i).md.length c9) (gBk L i).gs (gBk L i).us (gBk L i).ds := by
  obtain ⟨ao', cap, hv, h2, h3, _, h5⟩ := h
  injection hv with e1 e2 e3
  subst e1 e2 e3
  obtain ⟨b, off, ha, hp, hb, hc⟩ := h5 h0
  refine ⟨rfl, h3, b, off, ha, fun X hX i hi => ?_⟩
  obtain ⟨cs, ⟨g1, q, k, v, o, g2, mg, mu, md, rfl, r1, r2, r3, r4, r5, r6, r7, r8, r9, _⟩, c1⟩ := hc i hi
  obtain ⟨a1, c1', rfl, _, _⟩ := r1.shape
  obtain ⟨a2, c2', rfl, _, _⟩ := r2.shape
  obtain ⟨a3, c3', rfl, _, _⟩ := r3.shape
  obtain ⟨a4, c4', rfl, _, _⟩ := r4.shape
  obtain ⟨a5, c5', rfl, _, _⟩ := r5.shape
  obtain ⟨a6, c6', rfl, _, _⟩ := r6.shape
  obtain ⟨a7, c7', rfl, _, _⟩ := r7.shape
  obtain ⟨a8, c8', rfl, _, _⟩ := r8.shape
  obtain ⟨a9, c9', rfl, _, _⟩ := r9.shape
  exact ⟨a1, a2, a3, a4, a5, a6, a7, a8, a9, c1', c2', c3', c4', c5', c6', c7', c8', c9', B17.of fun j hj => (hX.cell (p := ⟨b, off + i * 17 + j, none⟩) hb (fun e => e)).trans (c1 j hj)⟩
/-- A block in a memory of its own, in every later memory. -/
theorem box17 (w : World) (cs : Array Value) (t : TypeId) : ∀ X, Fresh (w.alloc (.cells cs t)) X → X.heap[w.heap.size]? = some (.cells cs t (0, 0)) := fun _ hk => hk.at (heap_alloc_new w (.cells cs t)) (fun e => e)
end Go.Proofs.YtakiimjldccgcabDoor

/-
  A struct is loaded out of the midst of a block.
-/
namespace Go.Proofs.YtakiimjldccgcabDoor
open Go.RowKit Go.Lib

section
variable {P : Program}
theorem run_loadAt (w : World) (g off : Nat) (ty : TypeId) (cs : Array Value) (d : TypeDesc) (hc : ∀ j, j < cs.size → w.cell? ⟨g, off + j, none⟩ = cs[j]?)
    (hu : P.underlying ty = some d) (hd : (match d with | .struct _ | .array _ _ => true | _ => false) = true) (hi : (P.info? ty).map (·.size) = some cs.size) :
    (loadVar ty ⟨g, off, none⟩).run P w = .ok (.agg cs) w := by
  have hl : (loadCells ⟨g, off, none⟩ cs.toList.length).run P w = .ok cs.toList.toArray w :=
    run_loadCells_list (P := P) w ⟨g, off, none⟩ cs.toList (fun j v hv => by
      have hj : j < cs.size := by have := (List.getElem?_eq_some_iff.1 hv).1; simpa using this
      rw [Addr.add_lit, hc j hj]
      simpa using hv)
  cases hq : P.info? ty with
  | none => simp [hq] at hi
  | some i =>
    have hs : i.size = cs.size := by simpa [hq] using hi
    have hagg : (isAgg ty).run P w = .ok true w := by
      unfold isAgg
      rw [Sem.run_bind, run_underlying hu w]
      cases d <;> simp_all
    simp only [Array.length_toList, Array.toArray_toList] at hl
    simp [loadVar, Sem.run_bind, hagg, sizeOf, typeInfo, hq, hs, hl]
theorem wp_loadAt {o : Oper} {a : Act} {w : World} {K : Act → World → Prop} {Q : Exit → Act → World → Prop} (ty : TypeId) (x : Operand) (ho : o.op = .load ty x)
    (g off : Nat) (hx : a.eval x = .pointer (some ⟨g, off, none⟩)) (cs : Array Value) (hl : (loadVar ty ⟨g, off, none⟩).run P w = .ok (.agg cs) w)
    (h : K (a.put o.dst (.agg cs)) w) : o.wp P a w K Q := by
  unfold Oper.wp execOp
  simp only [ho, hx, Instr.loadAt, Instr.sureAddr, Sem.run_bind, Sem.run_pure, Result.andThen_ok, hl]
  exact h
theorem wpList_loadAt {ops : Array Oper} {rest : List Oper} {o : Oper} {a : Act} {w : World} {Q : Exit → Act → World → Prop} (hgd : o.guard = none) (ty : TypeId) (x : Operand) (ho : o.op = .load ty x)
    (g off : Nat) (hx : a.eval x = .pointer (some ⟨g, off, none⟩)) (cs : Array Value) (hl : (loadVar ty ⟨g, off, none⟩).run P w = .ok (.agg cs) w)
    (h : wpList P ops Q rest (a.put o.dst (.agg cs)) w) : wpList P ops Q (o :: rest) a w :=
  wpList_plain hgd fun _ hK => wp_loadAt ty x ho g off hx cs hl (hK _ _ h)
/-- As wpList_loadAt, behind a guard that lets it. -/
theorem wpList_loadAt_w {ops : Array Oper} {rest : List Oper} {o : Oper} {a : Act} {w : World} {Q : Exit → Act → World → Prop} (hw : Region.wanted o (yielded ops a.tmps) = true) (ty : TypeId) (x : Operand) (ho : o.op = .load ty x)
    (g off : Nat) (hx : a.eval x = .pointer (some ⟨g, off, none⟩)) (cs : Array Value) (hl : (loadVar ty ⟨g, off, none⟩).run P w = .ok (.agg cs) w)
    (h : wpList P ops Q rest (a.put o.dst (.agg cs)) w) : wpList P ops Q (o :: rest) a w :=
  wpList_step fun K hK => by
    simp only [hw, if_true]
    exact wp_loadAt ty x ho g off hx cs hl (hK _ _ h)
end
end Go.Proofs.YtakiimjldccgcabDoor

/-
  A block as a value: loaded out of a row; is it whole, which are its shifts.
-/
namespace Go.Proofs.YtakiimjldccgcabDoor
open Go.RowKit Go.Lib Go.Maps

theorem blkSize : (Tryd.prog.info? 72).map (·.size) = some 17 := by kernel_rfl
theorem BkC.size {p : Nat → Prop} {W : World} {C : Array Value} {B : Bk} (h : BkC p W C B) : C.size = 17 := by
  obtain ⟨_, _, _, _, _, _, _, _, _, rfl, _⟩ := h
  rfl
theorem BkC.one {p : Nat → Prop} {W : World} {C : Array Value} {B : Bk} (h : BkC p W C B) : C.all (·.oneCell') = true := by
  obtain ⟨g1, q, k, v, o, g2, mg, mu, md, rfl, r1, r2, r3, r4, r5, r6, r7, r8, r9, _⟩ := h
  obtain ⟨_, _, rfl, _⟩ := r1.shape
  obtain ⟨_, _, rfl, _⟩ := r2.shape
  obtain ⟨_, _, rfl, _⟩ := r3.shape
  obtain ⟨_, _, rfl, _⟩ := r4.shape
  obtain ⟨_, _, rfl, _⟩ := r5.shape
  obtain ⟨_, _, rfl, _⟩ := r6.shape
  obtain ⟨_, _, rfl, _⟩ := r7.shape
  obtain ⟨_, _, rfl, _⟩ := r8.shape
  obtain ⟨_, _, rfl, _⟩ := r9.shape
  simp [blkC, Value.oneCell']
theorem isWholeB_any {p : Nat → Prop} {V : World} {C : Array Value} {K : Bk} (h : BkC p V C K) (a1 a2 : Int) (A B D : Nat) (w : World) :
    Calls Tryd.prog 75 #[.agg C, .agg #[zV a1, zV a2, zV (D : Int), zV (A : Int), zV (B : Int)]] w fun e w' => e = .returned (.bool (bkW K A B D)) ∧ Fresh w w' := by
  obtain ⟨g1, q, k, v, o, g2, mg, mu, md, rfl, r1, r2, r3, r4, r5, r6, r7, r8, r9, _⟩ := h
  obtain ⟨_, _, rfl, _⟩ := r1.shape
  obtain ⟨_, _, rfl, _⟩ := r2.shape
  obtain ⟨_, _, rfl, _⟩ := r3.shape
  obtain ⟨_, _, rfl, _⟩ := r4.shape
  obtain ⟨_, _, rfl, _⟩ := r5.shape
  obtain ⟨_, _, rfl, _⟩ := r6.shape
  obtain ⟨_, _, rfl, _⟩ := r7.shape
  obtain ⟨_, _, rfl, _⟩ := r8.shape
  obtain ⟨_, _, rfl, _⟩ := r9.shape
  exact isWhole_any _ _ _ _ _ _ _ _ _ _ _ _ _ _ _ _ _ _ _ _ _ _ _ _ _ _ _ _ _ _ _ _ _ _ _ a1 a2 A B D w
theorem shiftsOfB_any {p : Nat → Prop} {V : World} {C : Array Value} {K : Bk} (h : BkC p V C K) (w : World) :
    Calls Tryd.prog 64 #[.agg C] w fun e w' => e = .returned (.agg #[zV K.qs, zV K.ks, zV K.vs, zV K.os, zV K.ss, zV K.gs, zV K.us, zV K.ds]) ∧ Fresh w w' := by
  obtain ⟨g1, q, k, v, o, g2, mg, mu, md, rfl, r1, r2, r3, r4, r5, r6, r7, r8, r9, _⟩ := h
  obtain ⟨_, _, rfl, _⟩ := r1.shape
  obtain ⟨_, _, rfl, _⟩ := r2.shape
  obtain ⟨_, _, rfl, _⟩ := r3.shape
  obtain ⟨_, _, rfl, _⟩ := r4.shape
  obtain ⟨_, _, rfl, _⟩ := r5.shape
  obtain ⟨_, _, rfl, _⟩ := r6.shape
  obtain ⟨_, _, rfl, _⟩ := r7.shape
  obtain ⟨_, _, rfl, _⟩ := r8.shape
  obtain ⟨_, _, rfl, _⟩ := r9.shape
  exact shiftsOf_any _ _ _ _ _ _ _ _ _ _ _ _ _ _ _ _ _ _ _ _ _ _ _ _ _ _ _ _ _ _ _ _ _ _ _ w
theorem run_index8 {C : Array Value} {c : Nat} {x : Int} (hc : c < 8) (hx : C[c]? = some (zV x)) (W : World) : (Instr.index 135 (.agg C) (zV (c : Int))).run Tryd.prog W = .ok (zV x) W := by
  have hz : (sizeOf 3).run Tryd.prog W = .ok 1 W := by kernel_rfl
  have ha : (isAgg 3).run Tryd.prog W = .ok false W := by kernel_rfl
  have hp : (Go.part 3 C c).run Tryd.prog W = .ok (zV x) W := by
    unfold Go.part
    rw [Sem.run_bind, ha]
    simp [Result.andThen, hx]
  unfold Instr.index
  simp [asIntOf, Sem.run_bind, run_underlying Tryd.underlying135 W, hc, hz, hp, Result.andThen]
theorem sh_get (K : Bk) {c : Nat} (hc : c < 8) : (#[zV K.qs, zV K.ks, zV K.vs, zV K.os, zV K.ss, zV K.gs, zV K.us, zV K.ds] : Array Value)[c]? = some (zV (K.sh.getD c 0)) := by
  rcases (show c = 0 ∨ c = 1 ∨ c = 2 ∨ c = 3 ∨ c = 4 ∨ c = 5 ∨ c = 6 ∨ c = 7 by omega) with rfl | rfl | rfl | rfl | rfl | rfl | rfl | rfl <;> rfl
/-- Block i of a row is loaded. -/
theorem BkR.blk {p : Nat → Prop} {W : World} {ao : Option Addr} {n c : Nat} {L : List Bk} (h : BkR p W (.slice ao n c) L) (h0 : 0 < L.length) : n = L.length ∧ n ≤ c ∧ ∃ b off, ao = some ⟨b, off, none⟩ ∧
    ∀ {S : Nat → Prop} {X : World}, Kept S W X → (∀ b, p b → ¬ S b) → ∀ i, i < n → ∃ C, (loadVar 72 ⟨b, off + i * 17, none⟩).run Tryd.prog X = .ok (.agg C) X ∧ BkC p X C (gBk L i) := by
  obtain ⟨ao', cap, hv, h2, h3, _, h5⟩ := h
  injection hv with e1 e2 e3
  subst e1 e2 e3
  obtain ⟨b, off, ha, hp, hb, hc⟩ := h5 h0
  refine ⟨rfl, h3, b, off, ha, fun {S X} hX hn i hi => ?_⟩
  obtain ⟨cs, h1, c1⟩ := hc i hi
  have hs := h1.size
  exact ⟨cs, run_loadAt X b (off + i * 17) 72 cs _ (fun j hj => (hX.cell (p := ⟨b, off + i * 17 + j, none⟩) hb (hn b hp)).trans (c1 j (by omega))) Tryd.underlying72 rfl (by rw [hs]; exact blkSize), h1.kept hX hn⟩
end Go.Proofs.YtakiimjldccgcabDoor
