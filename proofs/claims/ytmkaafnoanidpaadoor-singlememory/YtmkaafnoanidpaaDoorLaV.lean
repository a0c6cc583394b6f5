/-
  What the rows' list gives: the variables hold what their initialisers lay; and a world for the witnesses.
-/
import Derived.Test.YtmkaafnoanidpaaDoorFrame
import Derived.Test.YtmkaafnoanidpaaDoorNe
namespace Go.Proofs.YtmkaafnoanidpaaDoor
open Go.ChangeShapes Go.WideShapes Go.ChangeAt Go.RowKit

theorem laidVars_mem {P : Program} {w : World} {n : String} {d : DataW Unit} : ∀ {l : List (String × DataW Unit)} {ps : List MemPlace}, DataW.LaidVars P w l ps → (n, d) ∈ l →
    ∃ g t cs fuel p, P.globalNamed n = some g ∧ (P.globals[g]?).map (·.type) = some t ∧ w.var? P n = some cs ∧ DataW.trod (fun _ => ()) P w 0 (fun _ => true) false fuel t cs.toList = some (d, p)
  | [], _, _, hm => by cases hm
  | (n', d') :: r, ps, h, hm => by
    obtain ⟨g, t, cs, fuel, p, q, h1, h2, h3, h4, h5, _⟩ := h
    rcases List.mem_cons.1 hm with e | e
    · cases e
      exact ⟨g, t, cs, fuel, p, h1, h2, h3, h4⟩
    · exact laidVars_mem h5 e

/-- A variable of two ints. -/
theorem two_of_laid {P : Program} {W : World} {l : List (String × DataW Unit)} (h : laidMet P l W) {n : String} {a b : Int} (hm : (n, (.agg [.lit (.int .i64 a), .lit (.int .i64 b)] : DataW Unit)) ∈ l)
    {g t ti : Nat} {fs : Array Field} {f0 f1 : Field} (hg : P.globalNamed n = some g) (hty : (P.globals[g]?).map (·.type) = some t) (ht : P.underlying t = some (.struct fs)) (hfs : fs = #[f0, f1])
    (h0 : f0.type = ti) (h1 : f1.type = ti) (o0 : f0.offset = 0) (o1 : f1.offset = 1) (hti : P.underlying ti = some (.int .i64)) (hci : P.cellsOf ti = 1) :
    W.cell? ⟨g, 0, none⟩ = some (.int .i64 a) ∧ W.cell? ⟨g, 1, none⟩ = some (.int .i64 b) := by
  obtain ⟨ps, hl, _⟩ := h
  obtain ⟨g', t', cs, fuel, p, hg', ht', hv, hd⟩ := laidVars_mem hl hm
  obtain rfl := Option.some.inj (hg.symm.trans hg')
  obtain rfl := Option.some.inj (hty.symm.trans ht')
  obtain ⟨xs, k, _, hx, hlen, hxl, hfld⟩ := DataW.trod_struct ht hd
  have hx1 := congrArg Prod.fst hx
  simp only [DataW.agg.injEq] at hx1
  rw [hfs] at hxl hfld
  have g0 := hfld 0 f0 rfl
  have g1 := hfld 1 f1 rfl
  rw [h0, o0, hci] at g0
  rw [h1, o1, hci] at g1
  have hx1l : (xs.map (·.1))[0]? = some (.lit (.int .i64 a)) := by rw [← hx1]; rfl
  have hx2l : (xs.map (·.1))[1]? = some (.lit (.int .i64 b)) := by rw [← hx1]; rfl
  rw [List.getElem?_map] at hx1l hx2l
  cases hX0 : xs[0]? with
  | none => rw [hX0] at hx1l; cases hx1l
  | some X0 =>
    cases hX1 : xs[1]? with
    | none => rw [hX1] at hx2l; cases hx2l
    | some X1 =>
      rw [hX0] at g0 hx1l
      rw [hX1] at g1 hx2l
      obtain ⟨z0, hz0, rfl, _⟩ := DataW.trod_int hti g0
      obtain ⟨z1, hz1, rfl, _⟩ := DataW.trod_int hti g1
      simp only [Option.map_some, Option.some.injEq, DataW.lit.injEq, Lit.int.injEq, true_and] at hx1l hx2l
      subst hx1l hx2l
      have c0 := World.var?_cell hg hv 0
      have c1 := World.var?_cell hg hv 1
      have e0 : cs[0]? = some (.int .i64 z0) := by
        have := congrArg (·[0]?) hz0
        simpa [List.getElem?_take, List.getElem?_drop] using this
      have e1 : cs[1]? = some (.int .i64 z1) := by
        have := congrArg (·[0]?) hz1
        simpa [List.getElem?_take, List.getElem?_drop] using this
      exact ⟨c0.trans e0, c1.trans e1⟩

theorem cellsI : Tryd.prog.cellsOf 3 = 1 := by kernel_rfl

theorem sing_of_laid {W : World} {l : List (String × DataW Unit)} (h : laidMet Tryd.prog l W) (hm : ("herald/single.singles", Rows.laid_herald_single_singles) ∈ l) : Sing W :=
  two_of_laid h (a := 8) (b := 23) hm (g := 0) (t := 71) (ti := 3) (by kernel_rfl) (by kernel_rfl) Tryd.underlying71 rfl rfl rfl rfl rfl Tryd.underlying3 cellsI

/-- A world for the witnesses: the variables holding what their initialisers lay. -/
def layIn (w : World) : World :=
  { w with heap := (w.heap.modify 0 fun
      | .cells _ t frozen => .cells #[.int .i64 8, .int .i64 23] t frozen
      | o => o) }

theorem i64_of {x : Int} (h : (Lit.int .i64 x).wf = true) : -9223372036854775808 ≤ x ∧ x ≤ 9223372036854775807 := by
  have := bounds_i64 h
  exact ⟨by omega, by omega⟩
theorem u32_of {x : Int} (h : (Lit.int .u32 x).wf = true) : ∃ b : Nat, x = (b : Int) ∧ b < 4294967296 := by
  simp [Lit.wf, IntKind.min, IntKind.max, IntKind.signed, IntKind.bits] at h
  exact ⟨x.toNat, by omega, by omega⟩

end Go.Proofs.YtmkaafnoanidpaaDoor
