/-
  Lists of rows of ints: one number more behind one of them; a whole row of steps is loaded.
-/
import Derived.Test.YtdponkpgokncdaaGue
import Derived.Deep.WholeRow
namespace Go.Proofs.Ytdponkpgokncdaa
open Go.RowKit Go.Lib Go.Maps

theorem tyIg : Ty .i64 3 58 := ⟨Try.underlying58, Try.underlying3, by kernel_rfl, by kernel_rfl⟩
theorem tyLg : TyL 58 93 := ⟨Try.underlying93, by kernel_rfl⟩
/-- One number behind a row of one's own. -/
theorem pushG (X : World) (B : Nat) (v : Value) (L : List Int) (x : Int) (hown : X.ownsRow B 3 1 v L.length (L.map (Value.int .i64))) (hB : B ≤ X.heap.size) (hb : L.length + 1 ≤ 8796093022208) :
    ∃ g c X', (Builtin.append_ #[58, 58] 58 #[v, .slice (some ⟨X.heap.size, 0, none⟩) 1 1]).run Try.prog (X.alloc (.cells #[.int .i64 x] 3)) = .ok (.slice (some ⟨g, 0, none⟩) (L.length + 1) c) X' ∧
      X'.ownsRow B 3 1 (.slice (some ⟨g, 0, none⟩) (L.length + 1) c) (L.length + 1) ((L ++ [x]).map (Value.int .i64)) ∧ Kept (fun b => v.ownBlock = some b) X X' ∧ (v.ownBlock = some g ∨ X.heap.size ≤ g) := by
  obtain ⟨i0, hi0, hz0, hz1, hz2⟩ := info_parts tyIg.info
  have hY : (X.alloc (.cells #[.int .i64 x] 3)).ownsRow B 3 1 v L.length (L.map (Value.int .i64)) := owns_kept hown ((Kept.refl (fun _ => False) X).alloc _) (fun _ _ e => e)
  obtain ⟨v', w', hrun, ho, hg, _, hbk⟩ := run_append_own_at (P := Try.prog) (X.alloc (.cells #[.int .i64 x] 3)) B 58 58 3 i0 _ 1 8 tyIg.u hi0 hz0 hz1 hz2 rfl (by omega) _ L.length _ hY ⟨X.heap.size, 0, none⟩ 1 1 [.int .i64 x] rfl (fun q u hq => cell_one_new X (.int .i64 x) 3 q u hq) (fun u hu => by simp at hu; subst hu; rfl) (by unfold maxLen; omega) (by omega) (by simp; omega)
  obtain ⟨g', c', rfl⟩ : ∃ g' c', v' = .slice (some ⟨g', 0, none⟩) (L.length + 1) c' := by
    rcases ho.2 with ⟨_, e⟩ | ⟨g', cap', cur, hv, _⟩
    · omega
    · exact ⟨g', cap', hv⟩
  have hk : Kept (fun b => v.ownBlock = some b) X w' := ((Kept.refl (fun b => v.ownBlock = some b) X).alloc _).grown hg (fun q _ e => e)
  refine ⟨g', c', w', hrun, ?_, hk, ?_⟩
  · rw [List.map_append]
    exact ho
  · rcases hbk with e | e
    · exact .inl e.symm
    · right
      simp [Value.ownBlock] at e
      omega
theorem rws_put {k : IntKind} {e : TypeId} {us : List Value} {F : Nat → List Int} {p : Nat} (hp : p < us.length) (v : Value) (x : List Int) : (rws k e us F).set p (RK k e v x) = rws k e (us.set p v) (fun q => if q = p then x else F q) := by
  apply List.ext_getElem
  · simp [rws]
  · intro i h1 h2
    have hi : i < us.length := by rw [rws_len, List.length_set] at h2; exact h2
    rw [rws_get (by rw [List.length_set]; exact hi), List.getElem_set]
    split
    · rename_i e1
      subst e1
      rw [List.getD_eq_getElem?_getD, List.getElem?_set_self hp]
      simp
    · rename_i e1
      rw [rws_get hi, if_neg (fun e2 => e1 e2.symm), List.getD_eq_getElem?_getD, List.getD_eq_getElem?_getD, List.getElem?_set_ne e1]
/-- One number more behind one of the rows, and the list holds it. -/
theorem MemK.put {B : Nat} {X : World} {kg n cp : Nat} {us : List Value} {F : Nat → List Int} {ex : List Rr} (h : MemK .i64 3 58 B X (.slice (some ⟨kg, 0, none⟩) n cp) us F ex) (hn : us.length = n) {p : Nat} (hp : p < n) (x : Int) (hB : B ≤ X.heap.size) (hb : (F p).length + 1 ≤ 8796093022208) :
    ∃ g c X', (Builtin.append_ #[58, 58] 58 #[us.getD p nilV, .slice (some ⟨X.heap.size, 0, none⟩) 1 1]).run Try.prog (X.alloc (.cells #[.int .i64 x] 3)) = .ok (.slice (some ⟨g, 0, none⟩) ((F p).length + 1) c) X' ∧
      (∃ u, X'.cell? ⟨kg, p, none⟩ = some u) ∧ X'.frozen? ⟨kg, p, none⟩ = false ∧
      MemK .i64 3 58 B (X'.setCell ⟨kg, p, none⟩ (.slice (some ⟨g, 0, none⟩) ((F p).length + 1) c)) (.slice (some ⟨kg, 0, none⟩) n cp) (us.set p (.slice (some ⟨g, 0, none⟩) ((F p).length + 1) c)) (fun q => if q = p then F p ++ [x] else F q) ex ∧
      Kept (fun q => B ≤ q) X (X'.setCell ⟨kg, p, none⟩ (.slice (some ⟨g, 0, none⟩) ((F p).length + 1) c)) := by
  subst hn
  obtain ⟨hl, e1⟩ := rws_at (k := .i64) (e := 3) (s := 58) (F := F) (ex := ex) hp (.slice (some ⟨kg, 0, none⟩) us.length cp)
  have hr := h.row hp
  obtain ⟨g, c, X', r1, r2, r3, r4⟩ := pushG X B (us.getD p nilV) (F p) x hr hB hb
  have h2 := Rs.turnAt2 (r' := RK .i64 3 (.slice (some ⟨g, 0, none⟩) ((F p).length + 1) c) (F p ++ [x])) (X' := X') h hl (by rw [e1]; exact r3) (by
    unfold Rr.At
    show X'.ownsRow B 3 1 _ ((F p ++ [x]).map (Value.int .i64)).length ((F p ++ [x]).map (Value.int .i64))
    rw [List.length_map, List.length_append]
    exact r2) (fun k hk => by
      rw [e1]
      have hk' : some g = some k := hk
      simp only [Option.some.injEq] at hk'
      subst hk'
      exact r4)
  rw [List.set_append_left _ _ (by simp [rws_len]; omega), List.set_cons_succ, rws_put hp] at h2
  have hhead : X'.ownsRow B 58 1 (.slice (some ⟨kg, 0, none⟩) us.length cp) us.length us := Rs.head h2
  have h3 := Rs.store (i := p) (u := .slice (some ⟨g, 0, none⟩) ((F p).length + 1) c) h2 rfl
  refine ⟨g, c, X', r1, ⟨us.getD p nilV, ?_⟩, ?_, h3, ?_⟩
  · rw [hhead.cellAt p (by omega), List.getD_eq_getElem?_getD, List.getElem?_eq_getElem hp]
    rfl
  · clear hb r1 h3
    rcases hhead.2 with ⟨e, _⟩ | ⟨g', cap', cur, hv, hb', hh, _⟩
    · cases e
    · injection hv with e1
      injection e1 with e1
      injection e1 with e1
      subst e1
      exact Lib.frozen_of_heap hh p
  · have hg := own_ge3 hhead (q := kg) rfl
    exact (r3.mono (fun i _ e => own_ge3 hr e)).setCell (p := ⟨kg, p, none⟩) (fun _ => hg) _
/-- A whole row is loaded out of the midst of a block. -/
theorem run_load101 (w : World) (g off : Nat) (c : Array Value) (hc : c.size = 256) (h : ∀ j v, c.toList[j]? = some v → w.cell? ⟨g, off + j, none⟩ = some v) : (loadVar 101 ⟨g, off, none⟩).run Try.prog w = .ok (.agg c) w := by
  have hl : (loadCells ⟨g, off, none⟩ c.toList.length).run Try.prog w = .ok c.toList.toArray w :=
    run_loadCells_list (P := Try.prog) w ⟨g, off, none⟩ c.toList (fun j v hv => by
      rw [Addr.add_lit]
      exact h j v hv)
  have hagg : (isAgg 101).run Try.prog w = .ok true w := by
    unfold isAgg
    rw [Sem.run_bind, run_underlying Try.underlying101 w]
    rfl
  obtain ⟨i0, z, hi0, hz0, hz1, hz2, hz3⟩ := arrParts
  simp only [Array.length_toList, Array.toArray_toList] at hl
  have hz4 : i0.size = c.size := hz1.trans hc.symm
  clear hc hz1 hz3 hz2 h
  simp [loadVar, Sem.run_bind, hagg, sizeOf, typeInfo, hi0, hz4, hl, Result.andThen]
theorem wpList_load101 {ops : Array Oper} {rest : List Oper} {o : Oper} {a : Act} {w : World} {Q : Exit → Act → World → Prop} (hgd : o.guard = none) (x : Operand) (ho : o.op = .load 101 x) (g off : Nat) (hx : a.eval x = .pointer (some ⟨g, off, none⟩)) (c : Array Value)
    (hl : (loadVar 101 ⟨g, off, none⟩).run Try.prog w = .ok (.agg c) w) (h : wpList Try.prog ops Q rest (a.put o.dst (.agg c)) w) : wpList Try.prog ops Q (o :: rest) a w :=
  wpList_plain hgd fun _ hK => by
    unfold Oper.wp execOp
    simp only [ho, hx, Instr.loadAt, Instr.sureAddr, Sem.run_bind, Sem.run_pure, Result.andThen_ok, hl]
    exact hK _ _ h
theorem run_index101 {C : Array Value} {c : Nat} {x : Int} (hc : c < 256) (hx : C[c]? = some (.int .i16 x)) (W : World) : (Instr.index 101 (.agg C) (zV (c : Int))).run Try.prog W = .ok (.int .i16 x) W := by
  have hz : (sizeOf 100).run Try.prog W = .ok 1 W := by kernel_rfl
  have ha : (isAgg 100).run Try.prog W = .ok false W := by kernel_rfl
  have hp : (Go.part 100 C c).run Try.prog W = .ok (.int .i16 x) W := by
    unfold Go.part
    rw [Sem.run_bind, ha]
    simp [Result.andThen, hx]
  unfold Instr.index
  simp [asIntOf, Sem.run_bind, run_underlying Try.underlying101 W, hc, hz, hp, Result.andThen]
theorem rowS_get (f : Nat → Nat → Int) (s : Nat) {j : Nat} (hj : j < 256) : (rowS f s).toArray[j]? = some (.int .i16 (f s j)) := by
  rw [List.getElem?_toArray]
  unfold rowS
  rw [List.getElem?_map, List.getElem?_range hj]
  rfl
end Go.Proofs.Ytdponkpgokncdaa
