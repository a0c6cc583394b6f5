/-
  Pop, Get, Remove, Clear of a queue.
-/
import Derived.Test.YtonpdnpfekmapaaQut
namespace Go.Proofs.Ytonpdnpfekmapaa
open Go.RowKit Go.Lib Go.Maps

/-- A queue's elements are L now. -/
def QNow (w : World) (F : Nat → Prop) (qb N : Nat) (L : List El) (tk ar : Nat) (w' : World) : Prop :=
  ∃ F', QAt w' F' qb N L tk ar ∧ Kept F w w' ∧ ∀ k, F' k → F k ∨ w.heap.size ≤ k
theorem QNow.drewN {w w' : World} {F : Nat → Prop} {qb N : Nat} {L : List El} {tk ar : Nat} (h : QNow w F qb N L tk ar w') (n : Nat) : QNow w F qb N L tk ar (w'.drewN n) := by
  obtain ⟨F', a1, a2, a3⟩ := h
  exact ⟨F', a1.drewN n, a2.drewN n, a3⟩
theorem QNow.same {w : World} {F : Nat → Prop} {qb N : Nat} {L : List El} {tk ar : Nat} (h : QAt w F qb N L tk ar) (n : Nat) : QNow w F qb N L tk ar (w.drewN n) := ⟨F, h.drewN n, (Kept.refl _ w).drewN n, fun _ e => .inl e⟩

/-- out drops an element. -/
theorem out_some (F : Nat → Prop) (qb N : Nat) (A B : List El) (tk ar : Nat) (e : El) (w : World) (h : QAt w F qb N (A ++ e :: B) tk ar) (htk : tk ≤ 9223372036854775807) :
    Calls Try.prog 69 #[qV qb, oV (some e)] w fun q w' => q = .returned (oV (some e)) ∧ QNow w F qb N (A ++ B) tk ar w' ∧ ElAt w' e := by
  obtain ⟨lv, M, R, h1, h2, rfl⟩ := h
  have he := h1.el (x := e) (by rw [h2]; simp)
  have HD : Hid (Unit → _) := fun (_ : Unit) => drop_any qb N lv M R tk ar A B e w h1 h2 htk
  have HE : Hid (∀ w', QPost w qb N lv M R tk ar (A ++ B) w' → QNow w (QF qb M lv R) qb N (A ++ B) tk ar w' ∧ ElAt w' e) := fun w' hp => by
    obtain ⟨lv', R', b1, b2, b3, b4⟩ := hp
    refine ⟨⟨_, ⟨lv', M, R', b1, b2, rfl⟩, b3.mono (fun k _ e => e.qf), fun k hk => ?_⟩, he.kept b3 (fun hS => ?_)⟩
    · rcases hk with e | e | e | ⟨x, hx, e⟩
      · exact .inl (.inl e)
      · exact .inl (.inr (.inl e))
      · rcases b4 k e with e | e
        · exact .inl (.inr (.inr (.inl e)))
        · exact .inr e
      · rw [b2] at hx
        refine .inl (.inr (.inr (.inr ⟨x, ?_, e⟩)))
        rw [h2]
        rcases List.mem_append.1 hx with hx | hx <;> simp [hx]
    · rcases hS with e | e | e
      · exact he.not_qb h1.blk e
      · exact h1.map.not_cells he e
      · exact he.not_lf h1.ln e
  unfold oV
  clear h1 h2 he
  go_enter Try.func69, Try.ntmps69
  go_wp2_with fail
  refine (HD.out ()).mono ?_
  rintro q w1 ⟨rfl, hp⟩
  have HP : Hid (Unit → _) := fun (_ : Unit) => HE.out w1 hp
  clear HD HE hp
  go_wp2
  go_ret
  exact ⟨rfl, HP.out ()⟩
theorem out_none (qb : Nat) (w : World) : Calls Try.prog 69 #[qV qb, oV none] w fun q w' => q = .returned (oV none) ∧ w' = w := by
  unfold oV
  go_enter Try.func69, Try.ntmps69
  go_wp2
  go_ret
  exact ⟨rfl, rfl⟩

/-- The four parts of what is told. -/
def tK : Option El → KT
  | some x => x.k
  | none => 0
def tS : Option El → ByteArray
  | some x => x.v
  | none => ⟨#[]⟩
def tT : Option El → Nat
  | some x => x.t
  | none => 0
theorem toldV_eq (o : Option El) : toldV o = .tuple #[kV (tK o), .string (tS o), nV (tT o), .bool o.isSome] := by cases o <;> rfl

set_option maxHeartbeats 1000000 in
theorem pop_any (F : Nat → Prop) (qb N : Nat) (L : List El) (tk ar : Nat) (w : World) (h : QAt w F qb N L tk ar) (htk : tk ≤ 9223372036854775807) :
    Calls Try.prog 32 #[qV qb] w fun q w' => q = .returned (toldV L.head?) ∧ QNow w F qb N L.tail tk ar w' := by
  have HF : Hid (Unit → _) := fun (_ : Unit) => first_any F qb N L tk ar w h
  rw [toldV_eq]
  cases L with
  | nil =>
    have HO : Hid (Unit → _) := fun (_ : Unit) => out_none qb w
    have HT : Hid (Unit → _) := fun (_ : Unit) => told_any none w (fun x e => by cases e)
    have HE : Hid (∀ n, QNow w F qb N [] tk ar (w.drewN n)) := fun n => QNow.same h n
    rw [toldV_eq] at HT
    clear h
    simp only [List.head?_nil, List.tail_nil] at *
    generalize oV none = ov at *
    generalize tK none = a1 at *
    generalize tS none = a2 at *
    generalize tT none = a3 at *
    generalize (none : Option El).isSome = a4 at *
    go_enter Try.func32, Try.ntmps32
    go_wp2_with fail
    refine (HF.out ()).mono ?_
    rintro q w1 ⟨rfl, rfl⟩
    go_wp2_with fail
    refine (HO.out ()).mono ?_
    rintro q w1 ⟨rfl, rfl⟩
    go_wp2_with fail
    refine (HT.out ()).mono ?_
    rintro q w1 ⟨rfl, n, rfl⟩
    clear HF HO HT
    go_wp2
    exact bodyPost_ret (v := .tuple #[kV a1, .string a2, nV a3, .bool a4]) (by simp [results, Try.results32, go_sem]) rfl ⟨rfl, HE.out n⟩
  | cons e B =>
    have HO : Hid (Unit → _) := fun (_ : Unit) => out_some F qb N [] B tk ar e w h htk
    have HT : Hid (∀ W, ElAt W e → _) := fun W hW => told_any (some e) W (fun x e1 => by cases e1; exact hW)
    simp only [toldV_eq] at HT
    clear h
    simp only [List.head?_cons, List.tail_cons, List.nil_append] at *
    generalize oV (some e) = ov at *
    generalize tK (some e) = a1 at *
    generalize tS (some e) = a2 at *
    generalize tT (some e) = a3 at *
    generalize (some e).isSome = a4 at *
    go_enter Try.func32, Try.ntmps32
    go_wp2_with fail
    refine (HF.out ()).mono ?_
    rintro q w1 ⟨rfl, rfl⟩
    go_wp2_with fail
    refine (HO.out ()).mono ?_
    rintro q w2 ⟨rfl, hQ, hE⟩
    have HQ := show Hid _ from hQ
    have HTw : Hid (Unit → _) := fun (_ : Unit) => HT.out w2 hE
    clear HF HO HT hQ hE
    go_wp2_with fail
    refine (HTw.out ()).mono ?_
    rintro q w3 ⟨rfl, n, rfl⟩
    have HQ2 := show Hid _ from QNow.drewN HQ.out n
    clear HTw HQ
    go_wp2
    exact bodyPost_ret (v := .tuple #[kV a1, .string a2, nV a3, .bool a4]) (by simp [results, Try.results32, go_sem]) rfl ⟨rfl, HQ2.out⟩

theorem QAt.elem {w : World} {F : Nat → Prop} {qb N : Nat} {L : List El} {tk ar : Nat} (h : QAt w F qb N L tk ar) {x : El} (hx : x ∈ L) : ElAt w x := by
  obtain ⟨lv, M, R, h1, rfl, rfl⟩ := h
  exact h1.el hx

set_option maxHeartbeats 1000000 in
theorem get_any (F : Nat → Prop) (qb N : Nat) (L : List El) (tk ar : Nat) (z : Int) (w : World) (h : QAt w F qb N L tk ar) (hz : (Lit.int .i64 z).wf = true) :
    Calls Try.prog 31 #[qV qb, .int .i64 z] w fun q w' => q = .returned (.tuple #[kV (tK (fnd L z)), .string (tS (fnd L z)), .bool (fnd L z).isSome]) ∧ ∃ n, w' = w.drewN n := by
  have HW : Hid (Unit → _) := fun (_ : Unit) => with_any F qb N L tk ar z w h hz
  have HT : Hid (Unit → _) := fun (_ : Unit) => told_any (fnd L z) w (fun x e => h.elem (fnd_some e).1)
  rw [toldV_eq] at HT
  clear h
  generalize oV (fnd L z) = ov at *
  generalize tK (fnd L z) = a1 at *
  generalize tS (fnd L z) = a2 at *
  generalize tT (fnd L z) = a3 at *
  generalize (fnd L z).isSome = a4 at *
  go_enter Try.func31, Try.ntmps31
  go_wp2_with fail
  refine (HW.out ()).mono ?_
  rintro q w1 ⟨rfl, rfl⟩
  go_wp2_with fail
  refine (HT.out ()).mono ?_
  rintro q w1 ⟨rfl, n, rfl⟩
  clear HW HT
  go_wp2
  exact bodyPost_ret (v := .tuple #[kV a1, .string a2, .bool a4]) (by simp [results, Try.results31, go_sem]) rfl ⟨rfl, n, rfl⟩

/-- The list without the element of a ticket. -/
def lessT (L : List El) (z : Int) : List El := L.filter fun x => decide ((x.t : Int) ≠ z)
theorem lessT_mid {A B : List El} {e : El} (he : ∀ x ∈ A ++ B, x.t ≠ e.t) : lessT (A ++ e :: B) (e.t : Int) = A ++ B := by
  unfold lessT
  rw [List.filter_append, List.filter_cons_of_neg (by simp), ← List.filter_append]
  exact List.filter_eq_self.2 (fun x hx => by have := he x hx; simp; omega)
theorem lessT_none {L : List El} {z : Int} (h : fnd L z = none) : lessT L z = L := List.filter_eq_self.2 (fun x hx => by have := fnd_none h x hx; simpa using this)
theorem QAt.tn {w : World} {F : Nat → Prop} {qb N : Nat} {L : List El} {tk ar : Nat} (h : QAt w F qb N L tk ar) : Tn L := by
  obtain ⟨lv, M, R, h1, rfl, rfl⟩ := h
  exact h1.tn

set_option maxHeartbeats 1000000 in
theorem remove_any (F : Nat → Prop) (qb N : Nat) (L : List El) (tk ar : Nat) (z : Int) (w : World) (h : QAt w F qb N L tk ar) (hz : (Lit.int .i64 z).wf = true) (htk : tk ≤ 9223372036854775807) :
    Calls Try.prog 34 #[qV qb, .int .i64 z] w fun q w' => q = .returned (.tuple #[.string (tS (fnd L z)), .bool (fnd L z).isSome]) ∧ QNow w F qb N (lessT L z) tk ar w' := by
  have HW : Hid (Unit → _) := fun (_ : Unit) => with_any F qb N L tk ar z w h hz
  cases hf : fnd L z with
  | none =>
    have HO : Hid (Unit → _) := fun (_ : Unit) => out_none qb w
    have HT : Hid (Unit → _) := fun (_ : Unit) => told_any none w (fun x e => by cases e)
    have HE : Hid (∀ n, QNow w F qb N (lessT L z) tk ar (w.drewN n)) := fun n => by rw [lessT_none hf]; exact QNow.same h n
    rw [toldV_eq] at HT
    rw [hf] at HW
    clear h hf
    generalize oV none = ov at *
    generalize tK none = a1 at *
    generalize tS none = a2 at *
    generalize tT none = a3 at *
    generalize (none : Option El).isSome = a4 at *
    go_enter Try.func34, Try.ntmps34
    go_wp2_with fail
    refine (HW.out ()).mono ?_
    rintro q w1 ⟨rfl, rfl⟩
    go_wp2_with fail
    refine (HO.out ()).mono ?_
    rintro q w1 ⟨rfl, rfl⟩
    go_wp2_with fail
    refine (HT.out ()).mono ?_
    rintro q w1 ⟨rfl, n, rfl⟩
    clear HW HO HT
    go_wp2
    go_ret2
    exact ⟨rfl, HE.out n⟩
  | some e =>
    obtain ⟨hm, hzt⟩ := fnd_some hf
    obtain ⟨A, B, rfl⟩ := List.append_of_mem hm
    have hmid := (tn_mid.1 h.tn).2
    have HO : Hid (Unit → _) := fun (_ : Unit) => out_some F qb N A B tk ar e w h htk
    have HT : Hid (∀ W, ElAt W e → _) := fun W hW => told_any (some e) W (fun x e1 => by cases e1; exact hW)
    simp only [toldV_eq] at HT
    rw [← hzt, lessT_mid hmid]
    rw [hf] at HW
    subst hzt
    clear h hf hm hmid hz
    generalize oV (some e) = ov at *
    generalize tK (some e) = a1 at *
    generalize tS (some e) = a2 at *
    generalize tT (some e) = a3 at *
    generalize (some e).isSome = a4 at *
    go_enter Try.func34, Try.ntmps34
    go_wp2_with fail
    refine (HW.out ()).mono ?_
    rintro q w1 ⟨rfl, rfl⟩
    go_wp2_with fail
    refine (HO.out ()).mono ?_
    rintro q w2 ⟨rfl, hQ, hE⟩
    have HQ := show Hid _ from hQ
    have HTw : Hid (Unit → _) := fun (_ : Unit) => HT.out w2 hE
    clear HW HO HT hQ hE
    go_wp2_with fail
    refine (HTw.out ()).mono ?_
    rintro q w3 ⟨rfl, n, rfl⟩
    have HQ2 := show Hid _ from QNow.drewN HQ.out n
    clear HTw HQ
    go_wp2
    go_ret2
    exact ⟨rfl, HQ2.out⟩

theorem clear_any (F : Nat → Prop) (qb N : Nat) (L : List El) (tk ar : Nat) (w : World) (h : QAt w F qb N L tk ar) :
    Calls Try.prog 33 #[qV qb] w fun q w' => q = .returned (.tuple #[]) ∧ QNow w F qb N [] tk ar w' := by
  obtain ⟨lv, M, R, h1, rfl, rfl⟩ := h
  obtain ⟨c0, c1, c2, c3, c4⟩ := h1.blk.cells
  have f1 := h1.blk.frozen 1
  have f2 := h1.blk.frozen 2
  have hbq : qb < w.heap.size := lt_of_heap h1.blk
  have hq1 : (w.setCell ⟨qb, 1, none⟩ (.slice none 0 0)).heap[qb]? = some (.cells #[nV N, .slice none 0 0, .map (some M), nV tk, nV ar] 100 (0, 0)) := Lib.heap_setCell_same h1.blk _ (i := 1)
  have hs1 : (w.setCell ⟨qb, 1, none⟩ (.slice none 0 0)).heap.size = w.heap.size := by simp [World.setCell]
  have hk1 : Kept (fun k => k = qb) w (w.setCell ⟨qb, 1, none⟩ (.slice none 0 0)) := (Kept.refl (fun k => k = qb) w).setCell (p := ⟨qb, 1, none⟩) (fun _ => rfl) _
  have HQ : Hid (QNow w (QF qb M lv R) qb N [] tk ar (((w.setCell ⟨qb, 1, none⟩ (.slice none 0 0)).alloc (.map #[] 0)).setCell ⟨qb, 2, none⟩ (.map (some w.heap.size)))) := by
    have hA : Fresh (w.setCell ⟨qb, 1, none⟩ (.slice none 0 0)) ((w.setCell ⟨qb, 1, none⟩ (.slice none 0 0)).alloc (.map #[] 0)) := (Kept.refl _ _).alloc _
    have hm := MapT.made (w.setCell ⟨qb, 1, none⟩ (.slice none 0 0))
    rw [hs1] at hm
    have hk3 : Kept (fun k => k = qb) ((w.setCell ⟨qb, 1, none⟩ (.slice none 0 0)).alloc (.map #[] 0)) (((w.setCell ⟨qb, 1, none⟩ (.slice none 0 0)).alloc (.map #[] 0)).setCell ⟨qb, 2, none⟩ (.map (some w.heap.size))) := (Kept.refl (fun k => k = qb) _).setCell (p := ⟨qb, 2, none⟩) (fun _ => rfl) _
    refine ⟨_, ⟨.slice none 0 0, w.heap.size, [], ⟨Lib.heap_setCell_same (hA.at hq1 (fun e => e)) _ (i := 2), ⟨⟨rfl, .inl ⟨rfl, rfl⟩⟩, fun _ h => by (cases h), fun _ h => by (cases h), List.Pairwise.nil, fun _ h => by (cases h)⟩, hm.kept hk3 (fun e => by omega), Sd.nil, List.Pairwise.nil, fun _ h => by (cases h), by simp⟩, rfl, rfl⟩, ?_, fun k hk => ?_⟩
    · exact Kept.trans (Kept.trans (hk1.mono (fun k _ e => .inl e)) hA (fun _ _ e => e.elim)) hk3 (fun k _ e => .inl e)
    · rcases hk with e | e | e | ⟨x, hx, _⟩
      · exact .inl (.inl e)
      · exact .inr (by omega)
      · rcases e with e | ⟨r, hr, _⟩
        · cases e
        · cases hr
      · cases hx
  have hmk := make_map (w.setCell ⟨qb, 1, none⟩ (.slice none 0 0))
  have d2 := Lib.cell_of_heap hq1 2
  clear h1 hq1 c0 c3 c4 hk1
  rw [World.setCell_alloc_past _ _ _ _ (by rw [hs1]; exact hbq)] at HQ
  go_enter Try.func33, Try.ntmps33
  go_wp2
  go_end0
  exact ⟨rfl, HQ.out⟩
end Go.Proofs.Ytonpdnpfekmapaa
