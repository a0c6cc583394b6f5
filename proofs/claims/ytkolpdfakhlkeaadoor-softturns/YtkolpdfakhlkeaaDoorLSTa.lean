/-
  SoftTurns, where the lists are not of one length, or are empty; what appends of parts leave.
-/
import Derived.Test.YtkolpdfakhlkeaaDoorSfd
import Derived.Test.YtkolpdfakhlkeaaDoorSfw
import Derived.Test.YtkolpdfakhlkeaaDoorSfT
import Derived.Test.YtkolpdfakhlkeaaDoorNof
import Derived.Deep.Upon
import Derived.Deep.DeepCutAuto
import Derived.Deep.DeepMust
namespace Go.Proofs.YtkolpdfakhlkeaaDoor.STurns
open Go.ChangeShapes Go.WideShapes Go.ChangeAt Go.RowKit Go.Lib Go.Maps

theorem step_append_run {P : Program} {ops : Array Oper} {o : Oper} {a : Act} {w : World} {K : Act → World → Prop} {Q : Exit → Act → World → Prop} {E : Prop} (hgd : o.guard = none) (s x : Operand) (t tn : TypeId)
    (ho : o.op = .call { callee := .builtin .append, args := #[s, x], argTypes := #[t, tn] }) (vs vx : Value) (hs : a.eval s = vs) (hx : a.eval x = vx)
    (v' : Value) (w' : World) (hr : (Builtin.append_ #[t, tn] o.type #[vs, vx]).run P w = .ok v' w') (h : K (a.put o.dst v') w') :
    if Region.wanted o (yielded ops a.tmps) = true then Oper.wp P o a w K Q else E := by
  have hw : Region.wanted o (yielded ops a.tmps) = true := by simp [Region.wanted, hgd]
  rw [if_pos hw]
  exact wp_append_run w s x t tn ho vs vx hs hx v' w' hr h
theorem step_twin {P : Program} {ops : Array Oper} {o : Oper} {a : Act} {w : World} {K : Act → World → Prop} {Q : Exit → Act → World → Prop} {E : Prop} (hgd : o.guard = none) (s x : Operand) (t tn : TypeId)
    (ho : o.op = .call { callee := .builtin .append, args := #[s, x], argTypes := #[t, tn] }) (vs vx : Value) (hs : a.eval s = vs) (hx : a.eval x = vx)
    (R : Value → World → Prop) (hr : ∃ v' w', (Builtin.append_ #[t, tn] o.type #[vs, vx]).run P w = .ok v' w' ∧ R v' w') (h : ∀ v' w', R v' w' → K (a.put o.dst v') w') :
    if Region.wanted o (yielded ops a.tmps) = true then Oper.wp P o a w K Q else E := by
  obtain ⟨v', w', h1, h2⟩ := hr
  exact step_append_run hgd s x t tn ho vs vx hs hx v' w' h1 (h v' w' h2)
/-- The first append: a part of a row, behind nothing. -/
theorem app1 {k : IntKind} {e s : TypeId} (ht : Ty k e s) (Z : World) (a0 : Addr) (rv : Value) (zs : List Int) {p : Nat → Prop} (hr : Rk k p Z rv zs) (hpos : zs ≠ []) :
    ∃ v' Y, (Builtin.append_ #[s, s] s #[.slice (some a0) 0 0, rv]).run Tryd.prog Z = .ok v' Y ∧ ∃ g c, v' = .slice (some ⟨g, 0, none⟩) zs.length c ∧ Y.ownsRow Z.heap.size e 1 (.slice (some ⟨g, 0, none⟩) zs.length c) zs.length (zs.map (Value.int k)) ∧ Z.heap.size ≤ g ∧ Fresh Z Y := by
  obtain ⟨v', Y, h1, h2, h3⟩ := twin1 ht s Z a0 rv zs p hr hpos
  have hl : 0 < zs.length := List.length_pos_iff.2 hpos
  obtain ⟨g, c, rfl⟩ : ∃ g c, v' = .slice (some ⟨g, 0, none⟩) zs.length c := by
    rcases h2.2 with ⟨_, e0⟩ | ⟨g', cap', cur, hv, _⟩
    · omega
    · exact ⟨g', cap', hv⟩
  exact ⟨_, Y, h1, g, c, rfl, h2, (own_block h2).1, h3⟩
/-- The second: another part, behind it. -/
theorem app2 {k : IntKind} {e s : TypeId} (ht : Ty k e s) {Z : World} {B g c m : Nat} {xs : List Int} (hm : xs.length = m) (hown : Z.ownsRow B e 1 (.slice (some ⟨g, 0, none⟩) m c) m (xs.map (Value.int k))) (hB : B ≤ Z.heap.size) (hpos : 0 < m) {rv : Value} {zs : List Int} {p : Nat → Prop} (hr : Rk k p Z rv zs) {n : Nat} (hn : m + zs.length = n) (hx : n * kb k ≤ 140737488351232) :
    ∃ v' Y, (Builtin.append_ #[s, s] s #[.slice (some ⟨g, 0, none⟩) m c, rv]).run Tryd.prog Z = .ok v' Y ∧ ∃ g' c', v' = .slice (some ⟨g', 0, none⟩) n c' ∧ Y.ownsRow B e 1 (.slice (some ⟨g', 0, none⟩) n c') n ((xs ++ zs).map (Value.int k)) ∧ Kept (fun b => b = g) Z Y := by
  subst hm
  subst hn
  obtain ⟨v', Y, h1, h2, h3⟩ := twin ht s Z B _ xs hown hB rv zs p hr hx
  obtain ⟨g', c', rfl⟩ : ∃ g' c', v' = .slice (some ⟨g', 0, none⟩) (xs.length + zs.length) c' := by
    rcases h2.2 with ⟨_, e0⟩ | ⟨g', cap', cur, hv, _⟩
    · omega
    · exact ⟨g', cap', hv⟩
  exact ⟨_, Y, h1, g', c', rfl, h2, (Kept.refl _ Z).grown h3 (fun q _ e => by simp [Value.ownBlock] at e; exact e.symm)⟩
theorem ownKeep {YB YC YD : World} {B n gb c gc : Nat} {e : TypeId} {xs : List Value} (h : YB.ownsRow B e 1 (.slice (some ⟨gb, 0, none⟩) n c) n xs) (hBC : Fresh YB YC) (hCD : Kept (fun b => b = gc) YC YD) (hgc : YB.heap.size ≤ gc) : YD.ownsRow B e 1 (.slice (some ⟨gb, 0, none⟩) n c) n xs := by
  have hb := (own_block h).2.1
  exact owns_kept (owns_kept h hBC (fun _ _ e => e)) hCD (fun q hq e => by simp [Value.ownBlock] at hq; omega)

set_option maxHeartbeats 4000000 in
set_option maxRecDepth 100000 in
theorem walk_un (lv gv : Value) (ws vs : List Int) (turn : Int) (w : World) (hB : Bend w) (_hT : I64 turn) (hl : Rk .i64 (fun b => b < w.heap.size) w lv ws) (hg : Rk .i8 (fun b => b < w.heap.size) w gv vs) (q1 : ¬ (ws.length = vs.length ∧ ws.length ≠ 0)) :
    Calls Tryd.prog 8 #[lv, gv, zV turn] w fun e w' => e = .returned (.bool true) ∧ Fresh w w' := by
  have HL : Hid (∀ W, Fresh w W → Bend W ∧ Rk .i64 (fun b => b < w.heap.size) W lv ws ∧ Rk .i8 (fun b => b < w.heap.size) W gv vs) := fun W hF => ⟨hB.fresh hF, hl.fresh hF, hg.fresh hF⟩
  have HAW : Hid (∀ W, Bend W → _) := fun W hW => awake_any W hW
  have H1 : Hid (Unit → _) := fun (_ : Unit) => Mean_any _ _ _ _ _ _ w hl hg
  have HRf : Hid (∀ W, Fresh w W → _) := fun W hF => refMean_any _ _ _ _ _ _ W (HL.out W hF).2.1 (HL.out W hF).2.2
  have hm1 := hl.len
  have hm2 := hg.many
  simp only [kb] at hm1
  obtain ⟨ao, ac, rfl, _, hac⟩ := hl.shape
  obtain ⟨co, cc, rfl, _, hcc⟩ := hg.shape
  have q1' : ¬ (ws.length : Int) = (vs.length : Int) ∨ ((ws.length : Int) = (vs.length : Int) ∧ (ws.length : Int) = 0) := by omega
  clear hl hg hB q1
  generalize meV ws vs = M at *
  generalize meE ws vs.length = E at *
  rcases q1' with q1 | ⟨q1, q2⟩
  · generalize ws.length = n at *
    generalize vs.length = m at *
    go_enter Tryd.func8, Tryd.ntmps8
    go_wp2_with fail
    refine (H1.out ()).mono ?_
    rintro e w2 ⟨rfl, n2, hw2⟩
    have HF2 : Hid (Fresh w w2) := by show Fresh _ _; rw [hw2]; exact (Kept.refl _ _).drewN n2
    have H3 : Hid (Unit → _) := fun (_ : Unit) => HRf.out w2 HF2.out
    clear H1 hw2
    go_wp2_with fail
    refine (H3.out ()).mono ?_
    rintro e w3 ⟨rfl, n3, hw3⟩
    have HF3 : Hid (Fresh w w3) := by show Fresh _ _; rw [hw3]; exact HF2.out.drewN n3
    have HAw : Hid (Unit → _) := fun (_ : Unit) => HAW.out w3 (HL.out w3 HF3.out).1
    clear H3 hw3 HF2 HAW HL HRf
    go_wp2_with fail
    refine (HAw.out ()).mono ?_
    rintro e w4 ⟨rfl, hF4⟩
    have HF4 : Hid (Fresh w w4) := HF3.out.trans hF4 (fun _ _ e => e)
    clear hF4 HF3 HAw
    go_wp2
    go_ret
    exact ⟨by simp, HF4.out⟩
  · generalize ws.length = n at *
    generalize vs.length = m at *
    obtain rfl : n = 0 := by omega
    obtain rfl : m = 0 := by omega
    clear q1 q2
    go_enter Tryd.func8, Tryd.ntmps8
    go_wp2_with fail
    refine (H1.out ()).mono ?_
    rintro e w2 ⟨rfl, n2, hw2⟩
    have HF2 : Hid (Fresh w w2) := by show Fresh _ _; rw [hw2]; exact (Kept.refl _ _).drewN n2
    have H3 : Hid (Unit → _) := fun (_ : Unit) => HRf.out w2 HF2.out
    clear H1 hw2
    go_wp2_with fail
    refine (H3.out ()).mono ?_
    rintro e w3 ⟨rfl, n3, hw3⟩
    have HF3 : Hid (Fresh w w3) := by show Fresh _ _; rw [hw3]; exact HF2.out.drewN n3
    have HAw : Hid (Unit → _) := fun (_ : Unit) => HAW.out w3 (HL.out w3 HF3.out).1
    clear H3 hw3 HF2 HAW HL HRf
    go_wp2_with fail
    refine (HAw.out ()).mono ?_
    rintro e w4 ⟨rfl, hF4⟩
    have HF4 : Hid (Fresh w w4) := HF3.out.trans hF4 (fun _ _ e => e)
    clear hF4 HF3 HAw
    go_wp2
    go_ret
    exact ⟨by simp, HF4.out⟩

end Go.Proofs.YtkolpdfakhlkeaaDoor.STurns
