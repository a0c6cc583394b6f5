/-
  A queue that the call has made; two elements come out in their order.
-/
import Derived.Test.YtonpdnpfekmapaaQuv
namespace Go.Proofs.Ytonpdnpfekmapaa
open Go.RowKit Go.Lib Go.Maps

/-- A queue that lies in memory made since w. -/
structure St (w wr : World) (F : Nat → Prop) (qb N : Nat) (L : List El) (tk ar : Nat) : Prop where
  q : QAt wr F qb N L tk ar
  new : ∀ k, F k → w.heap.size ≤ k
  fr : Fresh w wr
section
variable {w wr w' : World} {F : Nat → Prop} {qb N : Nat} {L L' : List El} {tk ar tk' ar' : Nat}
theorem St.fresh (h : St w wr F qb N L tk ar) (hF : Fresh wr w') : St w w' F qb N L tk ar := ⟨h.q.fresh hF, h.new, h.fr.trans hF (fun _ _ e => e)⟩
theorem St.drewN (h : St w wr F qb N L tk ar) (n : Nat) : St w (wr.drewN n) F qb N L tk ar := h.fresh ((Kept.refl _ wr).drewN n)
theorem St.turn {F' : Nat → Prop} (h : St w wr F qb N L tk ar) (h1 : QAt w' F' qb N L' tk' ar') (h2 : Kept F wr w') (h3 : ∀ k, F' k → F k ∨ wr.heap.size ≤ k) : St w w' F' qb N L' tk' ar' :=
  ⟨h1, fun k hk => by
    rcases h3 k hk with e | e
    · exact h.new k e
    · have := h.fr.size; omega, h.fr.trans h2 (fun i hi e => by have := h.new i e; omega)⟩
theorem St.now (h : St w wr F qb N L tk ar) (hn : QNow wr F qb N L' tk' ar' w') : ∃ F', St w w' F' qb N L' tk' ar' := by
  obtain ⟨F', a1, a2, a3⟩ := hn
  exact ⟨F', h.turn a1 a2 a3⟩
theorem St.put {k : KT} {v : ByteArray} (h : St w wr F qb N L tk ar) (hp : PutQ wr F qb N L tk ar k v w') : ∃ e A B F', e.k = k ∧ e.v = v ∧ e.t = tk ∧ e.a = ar + 1 ∧ L = A ++ B ∧ Sp A B e ∧ St w w' F' qb N (A ++ e :: B) (tk + 1) (ar + 1) := by
  obtain ⟨e, A, B, F', a1, a2, a3, a4, a5, a6, a7, a8, a9⟩ := hp
  exact ⟨e, A, B, F', a1, a2, a3, a4, a5, a6, h.turn a7 a8 a9⟩
end

set_option maxHeartbeats 1000000 in
set_option maxRecDepth 100000 in
theorem awake_any (w : World) : Calls Try.prog 10 #[] w fun e w' => e = .returned (.bool true) ∧ Fresh w w' := by
  have HN : Hid (Unit → _) := fun (_ : Unit) => new_any 2 w
  go_enter Try.func10, Try.ntmps10
  go_wp2_with fail
  refine (HN.out ()).mono ?_
  rintro q w1 hq1
  rw [if_pos (by omega)] at hq1
  obtain ⟨F, qb, rfl, q1, q2, q3⟩ := hq1
  have hS1 : St w w1 F qb 2 [] 0 0 := ⟨q1, q3, q2⟩
  have HP1 : Hid (Unit → _) := fun (_ : Unit) => put_room F qb 2 [] 0 0 5 ⟨#[97]⟩ w1 hS1.q (by decide) (by decide) (by decide) (by decide)
  have HS1 := show Hid _ from hS1
  clear HN q1 q2 q3 hS1
  go_wp2_with fail
  refine (HP1.out ()).mono ?_
  rintro q w2 ⟨rfl, hp⟩
  obtain ⟨e1, A, B, F2, a1, a2, a3, a4, a5, a6, hS2⟩ := HS1.out.put hp
  obtain ⟨rfl, rfl⟩ := List.append_eq_nil_iff.1 a5.symm
  rw [List.nil_append] at hS2
  have HP2 : Hid (Unit → _) := fun (_ : Unit) => put_room F2 qb 2 [e1] 1 1 3 ⟨#[98]⟩ w2 hS2.q (by simp) (by decide) (by decide) (by decide)
  have HS2 := show Hid _ from hS2
  have HE1 : Hid (e1.k = 5) := a1
  clear HP1 hp a1 a2 a3 a4 a5 a6 hS2 HS1
  go_wp2_with fail
  refine (HP2.out ()).mono ?_
  rintro q w3 ⟨rfl, hp⟩
  obtain ⟨e2, A, B, F3, a1, a2, a3, a4, a5, a6, hS3⟩ := HS2.out.put hp
  have hA : A = [] := by
    cases A with
    | nil => rfl
    | cons x t =>
      have hx : x = e1 := by
        have := congrArg List.head? a5
        simpa using this.symm
      have := a6.1 x (by simp)
      rw [hx] at this
      unfold ord at this
      rw [HE1.out, a1, if_pos (by decide)] at this
      exact absurd this (by decide)
  subst hA
  rw [List.nil_append] at a5 hS3
  subst a5
  have HPo : Hid (Unit → _) := fun (_ : Unit) => pop_any F3 qb 2 [e2, e1] 2 2 w3 hS3.q (by decide)
  rw [toldV_eq] at HPo
  simp only [List.head?_cons, List.tail_cons, tK, tS, tT, a1, a2, a3, Option.isSome_some] at HPo
  have HS3 := show Hid _ from hS3
  clear HP2 hp a1 a2 a3 a4 a6 hS3 HS2 HE1
  go_wp2_with fail
  refine (HPo.out ()).mono ?_
  rintro q w4 ⟨rfl, hn⟩
  obtain ⟨F4, hS4⟩ := HS3.out.now hn
  have HL : Hid (Unit → _) := fun (_ : Unit) => len_any F4 qb 2 [e1] 2 2 w4 hS4.q
  have HF := show Hid _ from hS4.fr
  clear HPo hn hS4 HS3
  go_wp2_with fail
  refine (HL.out ()).mono ?_
  rintro q w5 ⟨rfl, rfl⟩
  clear HL
  go_wp2
  go_ret
  exact ⟨by simp, HF.out⟩
end Go.Proofs.Ytonpdnpfekmapaa
