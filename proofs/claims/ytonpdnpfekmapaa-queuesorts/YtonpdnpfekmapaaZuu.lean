/-
  Pop, Get, Remove, Clear of a queue.
-/
import Derived.Test.YtonpdnpfekmapaaZut
namespace Go.Proofs.Ytonpdnpfekmapaa.SI
open Go.RowKit Go.Lib Go.Maps

/-- A queue's elements are L now. -/
def QNow (w : World) (F : Nat → Prop) (qb N : Nat) (L : List El) (tk ar : Nat) (w' : World) : Prop :=
  ∃ F', QAt w' F' qb N L tk ar ∧ Kept F w w' ∧ ∀ k, F' k → F k ∨ w.heap.size ≤ k
theorem QNow.drewN {w w' : World} {F : Nat → Prop} {qb N : Nat} {L : List El} {tk ar : Nat} (h : QNow w F qb N L tk ar w') (n : Nat) : QNow w F qb N L tk ar (w'.drewN n) := by
  obtain ⟨F', a1, a2, a3⟩ := h
  exact ⟨F', a1.drewN n, a2.drewN n, a3⟩
theorem QNow.same {w : World} {F : Nat → Prop} {qb N : Nat} {L : List El} {tk ar : Nat} (h : QAt w F qb N L tk ar) (n : Nat) : QNow w F qb N L tk ar (w.drewN n) := ⟨F, h.drewN n, (Kept.refl _ w).drewN n, fun _ e => .inl e⟩

/-- out drops an element. -/
theorem out_some (F : Nat → Prop) (qb N : Nat) (A B : List El) (tk ar : Nat) (e : El) (w : World) (h : QAt w F qb N (A ++ e :: B) tk ar) (htk : tk ≤ 9223372036854775807) :
    Calls Try.prog 53 #[qV qb, oV (some e)] w fun q w' => q = .returned (oV (some e)) ∧ QNow w F qb N (A ++ B) tk ar w' ∧ ElAt w' e := by
  obtain ⟨lv, M, R, h1, h2, rfl⟩ := h
  have he := h1.el (x := e) (by rw [h2]; simp)
  have HD : Hid (Unit → _) := fun (_ : Unit) => drop_any qb N lv M R tk ar A B e w h1 h2 htk
  have HE : Hid (∀ w', QPost w qb N lv M R tk ar (A ++ B) w' → QNow w (QF qb M lv R) qb N (A ++ B) tk ar w' ∧ ElAt w' e) := fun w' hp => by
    obtain ⟨lv', R', b1, b2, b3, b4⟩ := hp
    refine ⟨⟨_, ⟨lv', M, R', b1, b2, rfl⟩, b3.mono (fun k _ e => e.qf), fun k hk => ?_⟩, he.kept b3 (fun hS => ?_)⟩
    · rcases hk with e | e | e | ⟨x, hx, e⟩
      · exact .inl (.inl e)
      · exact .inl (.inr (.inl e))
      · rcases b4 k e with e | e
        · exact .inl (.inr (.inr (.inl e)))
        · exact .inr e
      · rw [b2] at hx
        refine .inl (.inr (.inr (.inr ⟨x, ?_, e⟩)))
        rw [h2]
        rcases List.mem_append.1 hx with hx | hx <;> simp [hx]
    · rcases hS with e | e | e
      · exact he.not_qb h1.blk e
      · exact h1.map.not_cells he e
      · exact he.not_lf h1.ln e
  unfold oV
  clear h1 h2 he
  go_enter Try.func53, Try.ntmps53
  go_wp2_with fail
  refine (HD.out ()).mono ?_
  rintro q w1 ⟨rfl, hp⟩
  have HP : Hid (Unit → _) := fun (_ : Unit) => HE.out w1 hp
  clear HD HE hp
  go_wp2
  go_ret
  exact ⟨rfl, HP.out ()⟩
theorem out_none (qb : Nat) (w : World) : Calls Try.prog 53 #[qV qb, oV none] w fun q w' => q = .returned (oV none) ∧ w' = w := by
  unfold oV
  go_enter Try.func53, Try.ntmps53
  go_wp2
  go_ret
  exact ⟨rfl, rfl⟩

/-- The four parts of what is told. -/
def tK : Option El → KT
  | some x => x.k
  | none => ⟨#[]⟩
def tS : Option El → Int
  | some x => x.v
  | none => 0
def tT : Option El → Nat
  | some x => x.t
  | none => 0
theorem toldV_eq (o : Option El) : toldV o = .tuple #[kV (tK o), .int .i64 (tS o), nV (tT o), .bool o.isSome] := by cases o <;> rfl

set_option maxHeartbeats 1000000 in
theorem pop_any (F : Nat → Prop) (qb N : Nat) (L : List El) (tk ar : Nat) (w : World) (h : QAt w F qb N L tk ar) (htk : tk ≤ 9223372036854775807) :
    Calls Try.prog 18 #[qV qb] w fun q w' => q = .returned (toldV L.head?) ∧ QNow w F qb N L.tail tk ar w' := by
  have HF : Hid (Unit → _) := fun (_ : Unit) => first_any F qb N L tk ar w h
  rw [toldV_eq]
  cases L with
  | nil =>
    have HO : Hid (Unit → _) := fun (_ : Unit) => out_none qb w
    have HT : Hid (Unit → _) := fun (_ : Unit) => told_any none w (fun x e => by cases e)
    have HE : Hid (∀ n, QNow w F qb N [] tk ar (w.drewN n)) := fun n => QNow.same h n
    rw [toldV_eq] at HT
    clear h
    simp only [List.head?_nil, List.tail_nil] at *
    generalize oV none = ov at *
    generalize tK none = a1 at *
    generalize tS none = a2 at *
    generalize tT none = a3 at *
    generalize (none : Option El).isSome = a4 at *
    go_enter Try.func18, Try.ntmps18
    go_wp2_with fail
    refine (HF.out ()).mono ?_
    rintro q w1 ⟨rfl, rfl⟩
    go_wp2_with fail
    refine (HO.out ()).mono ?_
    rintro q w1 ⟨rfl, rfl⟩
    go_wp2_with fail
    refine (HT.out ()).mono ?_
    rintro q w1 ⟨rfl, n, rfl⟩
    clear HF HO HT
    go_wp2
    exact bodyPost_ret (v := .tuple #[kV a1, .int .i64 a2, nV a3, .bool a4]) (by simp [results, Try.results18, go_sem]) rfl ⟨rfl, HE.out n⟩
  | cons e B =>
    have HO : Hid (Unit → _) := fun (_ : Unit) => out_some F qb N [] B tk ar e w h htk
    have HT : Hid (∀ W, ElAt W e → _) := fun W hW => told_any (some e) W (fun x e1 => by cases e1; exact hW)
    simp only [toldV_eq] at HT
    clear h
    simp only [List.head?_cons, List.tail_cons, List.nil_append] at *
    generalize oV (some e) = ov at *
    generalize tK (some e) = a1 at *
    generalize tS (some e) = a2 at *
    generalize tT (some e) = a3 at *
    generalize (some e).isSome = a4 at *
    go_enter Try.func18, Try.ntmps18
    go_wp2_with fail
    refine (HF.out ()).mono ?_
    rintro q w1 ⟨rfl, rfl⟩
    go_wp2_with fail
    refine (HO.out ()).mono ?_
    rintro q w2 ⟨rfl, hQ, hE⟩
    have HQ := show Hid _ from hQ
    have HTw : Hid (Unit → _) := fun (_ : Unit) => HT.out w2 hE
    clear HF HO HT hQ hE
    go_wp2_with fail
    refine (HTw.out ()).mono ?_
    rintro q w3 ⟨rfl, n, rfl⟩
    have HQ2 := show Hid _ from QNow.drewN HQ.out n
    clear HTw HQ
    go_wp2
    exact bodyPost_ret (v := .tuple #[kV a1, .int .i64 a2, nV a3, .bool a4]) (by simp [results, Try.results18, go_sem]) rfl ⟨rfl, HQ2.out⟩

theorem QAt.elem {w : World} {F : Nat → Prop} {qb N : Nat} {L : List El} {tk ar : Nat} (h : QAt w F qb N L tk ar) {x : El} (hx : x ∈ L) : ElAt w x := by
  obtain ⟨lv, M, R, h1, rfl, rfl⟩ := h
  exact h1.el hx

theorem QAt.tn {w : World} {F : Nat → Prop} {qb N : Nat} {L : List El} {tk ar : Nat} (h : QAt w F qb N L tk ar) : Tn L := by
  obtain ⟨lv, M, R, h1, rfl, rfl⟩ := h
  exact h1.tn

end Go.Proofs.Ytonpdnpfekmapaa.SI
