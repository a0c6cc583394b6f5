/-
  What the statement QueueSorts has put in, and taken out.
-/
import Derived.Test.YtonpdnpfekmapaaZuy
import Derived.Test.YtonpdnpfekmapaaQuw
namespace Go.Proofs.Ytonpdnpfekmapaa.SI
open Go.RowKit Go.Lib Go.Maps

theorem Try.infoB : (Try.prog.info? 4).map (fun i => (i.zero, i.size, i.bytes)) = some (some (.bool false), 1, 1) := by kernel_rfl
theorem QAt.sd {w : World} {F : Nat → Prop} {qb N : Nat} {L : List El} {tk ar : Nat} (h : QAt w F qb N L tk ar) : Sd L := by
  obtain ⟨lv, M, R, h1, rfl, rfl⟩ := h
  exact h1.sd
/-- What was put in so far. -/
structure Fill (w wr : World) (F : Nat → Prop) (qb : Nat) (K : List ByteArray) (L : List El) (j : Nat) : Prop where
  st : St w wr F qb 65536 L j j
  len : L.length = j
  own : Own K L
  all : ∀ i, i < j → ∃ x ∈ L, x.t = i
theorem Fill.next {w wr w' : World} {F : Nat → Prop} {qb : Nat} {K : List ByteArray} {L : List El} {j : Nat} (h : Fill w wr F qb K L j) (hj : j < K.length) (hp : PutQ wr F qb 65536 L j j K[j] (j : Int) w') : ∃ F' L', Fill w w' F' qb K L' (j + 1) := by
  obtain ⟨e, A, B, F', a1, a2, a3, a4, a5, a6, hS⟩ := h.st.put hp
  have hmem : ∀ x ∈ A ++ e :: B, x = e ∨ x ∈ L := fun x hx => by
    rw [a5]
    rcases List.mem_append.1 hx with hx | hx
    · exact .inr (List.mem_append_left _ hx)
    · rcases List.mem_cons.1 hx with rfl | hx
      · exact .inl rfl
      · exact .inr (List.mem_append_right _ hx)
  refine ⟨F', _, hS, ?_, fun x hx => ?_, fun i hi => ?_⟩
  · have := h.len
    rw [a5] at this
    simp at this ⊢
    omega
  · rcases hmem x hx with rfl | hx
    · refine ⟨by omega, ?_, by rw [a2, a3], by rw [a4, a3]⟩
      rw [a1]
      simp only [a3]
    · exact h.own x hx
  · by_cases hij : i = j
    · exact ⟨e, by simp, by rw [a3, hij]⟩
    · obtain ⟨x, hx, e1⟩ := h.all i (by omega)
      rw [a5] at hx
      exact ⟨x, by rcases List.mem_append.1 hx with hx | hx <;> simp [hx], e1⟩

/-- What was taken out so far: of the texts K, with what was seen in block sb. -/
structure Drain (w wr : World) (F : Nat → Prop) (qb sb : Nat) (K : List ByteArray) (n j : Nat) (L : List El) (lst : Bool) (wk : ByteArray) (ati : Int) : Prop where
  st : St w wr F qb 65536 L n n
  nn : n = K.length
  len : L.length + j = n
  own : Own K L
  seen : wr.ownsRow 0 4 1 (.slice (some ⟨sb, 0, none⟩) n n) n (seenV n L)
  new : w.heap.size ≤ sb
  nf : ¬ F sb
  was : ati = -1 ∨ ∃ p : El, ati = (p.t : Int) ∧ wk = p.k ∧ p.a = p.t + 1 ∧ ∀ x ∈ L, (if lst = true then ord x p else ord p x) < 0
section
variable {w wr w' : World} {F : Nat → Prop} {qb sb : Nat} {K : List ByteArray} {n j : Nat} {lst : Bool} {wk : ByteArray} {ati : Int}
theorem Drain.lt {L : List El} (h : Drain w wr F qb sb K n j L lst wk ati) : sb < wr.heap.size := by
  rcases h.seen.2 with ⟨e, _⟩ | ⟨g, cap, cur, e, _, hh, _⟩
  · cases e
  · injection e with e1
    injection e1 with e1
    injection e1 with e1
    rw [e1]
    exact lt_of_heap hh
/-- One element less. -/
theorem Drain.less {A B : List El} {e : El} (h : Drain w wr F qb sb K n j (A ++ e :: B) lst wk ati) (hn : 0 < n) (hq : QNow wr F qb 65536 (A ++ B) n n w') :
    (∃ F', ∀ (lst' : Bool), (∀ x ∈ A ++ B, (if lst' = true then ord x e else ord e x) < 0) → Drain w (w'.setCell ⟨sb, e.t, none⟩ (.bool true)) F' qb sb K n (j + 1) (A ++ B) lst' e.k (e.t : Int)) ∧ Fresh w w' ∧ w'.cell? ⟨sb, e.t, none⟩ = some (.bool false) ∧ w'.frozen? ⟨sb, e.t, none⟩ = false ∧ e.v = (e.t : Int) ∧ ∃ ht : e.t < K.length, e.k = K[e.t] := by
  have hS := h.st
  obtain ⟨F', a1, a2, a3⟩ := hq
  have hS' := hS.turn a1 a2 a3
  have hlt := h.lt
  have hem : e ∈ A ++ e :: B := by simp
  obtain ⟨ht, hk, hv, ha⟩ := h.own e hem
  have hseen' : w'.ownsRow 0 4 1 (.slice (some ⟨sb, 0, none⟩) n n) n (seenV n (A ++ e :: B)) := owns_kept h.seen a2 (fun g hg e1 => h.nf (by rw [show sb = g from Option.some.inj hg]; exact e1))
  have hcell : w'.cell? ⟨sb, e.t, none⟩ = some (.bool false) := by
    obtain ⟨g, cap, e1, _, _, hc⟩ := own_some hseen' hn
    injection e1 with e1
    injection e1 with e1
    injection e1 with e1
    rw [e1]
    exact hc e.t _ (seen_at hem (by rw [h.nn]; exact ht))
  have hfz : w'.frozen? ⟨sb, e.t, none⟩ = false := by
    obtain ⟨cur, hcur⟩ := own_type hseen' (k := sb) rfl
    exact Lib.frozen_of_heap hcur _
  have hkS : Kept (fun k => k = sb) w' (w'.setCell ⟨sb, e.t, none⟩ (.bool true)) := (Kept.refl (fun k => k = sb) w').setCell (p := ⟨sb, e.t, none⟩) (fun _ => rfl) _
  have hnF : ∀ k, F' k → ¬ k = sb := fun k hk e1 => by
    subst e1
    rcases a3 k hk with e2 | e2
    · exact h.nf e2
    · omega
  have hset := own_set (i := e.t) (x := .bool true) hseen'
  rw [seen_set hS.q.tn] at hset
  refine ⟨⟨F', fun lst' hlst => ⟨⟨hS'.q.kept hkS hnF, hS'.new, hS'.fr.trans hkS (fun i hi e1 => by have := h.new; omega)⟩, h.nn, ?_, fun x hx => h.own x (by rcases List.mem_append.1 hx with hx | hx <;> simp [hx]), hset, h.new, fun e1 => hnF sb e1 rfl, .inr ⟨e, rfl, rfl, ha, hlst⟩⟩⟩, hS'.fr, hcell, hfz, hv, ht, hk⟩
  have := h.len
  simp at this ⊢
  omega
theorem Drain.drewN {L : List El} (h : Drain w wr F qb sb K n j L lst wk ati) (m : Nat) : Drain w (wr.drewN m) F qb sb K n j L lst wk ati := ⟨h.st.drewN m, h.nn, h.len, h.own, h.seen, h.new, h.nf, h.was⟩
end

end Go.Proofs.Ytonpdnpfekmapaa.SI
