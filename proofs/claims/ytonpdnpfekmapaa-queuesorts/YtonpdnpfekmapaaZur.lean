/-
  A queue in memory, and what its calls that only read answer.
-/
import Derived.Test.YtonpdnpfekmapaaZuq
namespace Go.Proofs.Ytonpdnpfekmapaa.SI
open Go.RowKit Go.Lib Go.Maps

/-- The blocks of a queue. -/
def QF (qb M : Nat) (lv : Value) (R : List Run) (k : Nat) : Prop := k = qb ∨ k = M ∨ LF lv R k ∨ ∃ x ∈ flat R, x.b = k
/-- A queue lies in block qb: its elements are L, N at most; tk tickets were given, ar came. -/
structure QM (w : World) (qb N : Nat) (lv : Value) (M : Nat) (R : List Run) (tk ar : Nat) : Prop where
  blk : QB w qb N lv M tk ar
  ln : LnM w lv R
  map : MapT w M (flat R)
  sd : Sd (flat R)
  tn : Tn (flat R)
  bd : ∀ x ∈ flat R, x.t < tk ∧ x.a ≤ ar
  le : (flat R).length ≤ 65536
def QAt (w : World) (F : Nat → Prop) (qb N : Nat) (L : List El) (tk ar : Nat) : Prop :=
  ∃ lv M R, QM w qb N lv M R tk ar ∧ flat R = L ∧ F = QF qb M lv R

section
variable {w w' : World} {qb N : Nat} {lv : Value} {M tk ar : Nat} {R : List Run}
theorem QM.el (h : QM w qb N lv M R tk ar) {x : El} (hx : x ∈ flat R) : ElAt w x := by
  obtain ⟨l, hl, hx2⟩ := List.mem_flatten.1 hx
  obtain ⟨r, hr, rfl⟩ := List.mem_map.1 hl
  exact h.ln.el r hr x hx2
theorem QM.kept {S : Nat → Prop} (h : QM w qb N lv M R tk ar) (hk : Kept S w w') (hS : ∀ k, QF qb M lv R k → ¬ S k) : QM w' qb N lv M R tk ar :=
  ⟨hk.at h.blk (hS _ (.inl rfl)), ⟨owns_kept h.ln.own hk (fun k e => hS k (.inr (.inr (.inl (.inl e))))), fun r hr => owns_kept (h.ln.run r hr) hk (fun k e => hS k (.inr (.inr (.inl (.inr ⟨r, hr, e⟩))))), h.ln.ne, h.ln.nd,
    fun r hr x hx => (h.ln.el r hr x hx).kept hk (hS _ (.inr (.inr (.inr ⟨x, List.mem_flatten.2 ⟨_, List.mem_map.2 ⟨r, hr, rfl⟩, hx⟩, rfl⟩))))⟩, h.map.kept hk (hS _ (.inr (.inl rfl))), h.sd, h.tn, h.bd, h.le⟩
theorem QAt.kept {S F : Nat → Prop} {L : List El} (h : QAt w F qb N L tk ar) (hk : Kept S w w') (hS : ∀ k, F k → ¬ S k) : QAt w' F qb N L tk ar := by
  obtain ⟨lv, M, R, h1, h2, rfl⟩ := h
  exact ⟨lv, M, R, h1.kept hk hS, h2, rfl⟩
theorem QAt.fresh {F : Nat → Prop} {L : List El} (h : QAt w F qb N L tk ar) (hk : Fresh w w') : QAt w' F qb N L tk ar := h.kept hk (fun _ _ e => e)
theorem QAt.drewN {F : Nat → Prop} {L : List El} (h : QAt w F qb N L tk ar) (n : Nat) : QAt (w.drewN n) F qb N L tk ar := h.fresh ((Kept.refl _ w).drewN n)
theorem QM.lt (h : QM w qb N lv M R tk ar) {k : Nat} (hk : QF qb M lv R k) : k < w.heap.size := by
  rcases hk with rfl | rfl | e | ⟨x, hx, rfl⟩
  · exact lt_of_heap h.blk
  · obtain ⟨es, clock, hb⟩ := h.map.block
    exact lt_of_heap hb
  · exact h.ln.lf_lt e
  · exact lt_of_heap (h.el hx)
theorem QAt.lt {F : Nat → Prop} {L : List El} (h : QAt w F qb N L tk ar) {k : Nat} (hk : F k) : k < w.heap.size := by
  obtain ⟨lv, M, R, h1, h2, rfl⟩ := h
  exact h1.lt hk
end

/-- A queue's pointer. -/
abbrev qV (qb : Nat) : Value := .pointer (some ⟨qb, 0, none⟩)

set_option maxHeartbeats 400000 in
theorem len_any (F : Nat → Prop) (qb N : Nat) (L : List El) (tk ar : Nat) (w : World) (h : QAt w F qb N L tk ar) :
    Calls Try.prog 19 #[qV qb] w fun q w' => q = .returned (nV L.length) ∧ w' = w := by
  obtain ⟨lv, M, R, h1, rfl, rfl⟩ := h
  obtain ⟨_, _, c2, _, _⟩ := h1.blk.cells
  have hl := h1.map.len
  clear h1
  generalize (flat R).length = n at *
  go_enter Try.func19, Try.ntmps19
  go_wp2
  go_ret
  exact ⟨rfl, rfl⟩
/-- What is told of an element, or of none. -/
def toldV : Option El → Value
  | some x => .tuple #[kV x.k, .int .i64 x.v, nV x.t, .bool true]
  | none => .tuple #[kV ⟨#[]⟩, .int .i64 0, nV 0, .bool false]
theorem told_any (o : Option El) (w : World) (h : ∀ x, o = some x → ElAt w x) :
    Calls Try.prog 52 #[oV o] w fun q w' => q = .returned (toldV o) ∧ ∃ n, w' = w.drewN n := by
  cases o with
  | none =>
    unfold oV toldV
    clear h
    go_enter Try.func52, Try.ntmps52
    go_wp2
    refine bodyPost_ret (v := .tuple #[kV ⟨#[]⟩, .int .i64 0, nV 0, .bool false]) (by simp [results, Try.results52, go_sem]) rfl ⟨rfl, 0, rfl⟩
  | some x =>
    obtain ⟨c0, c1, c2, _⟩ := (h x rfl).cells
    unfold oV toldV
    clear h
    go_enter Try.func52, Try.ntmps52
    go_wp2
    go_quiet (fail)
    go_wp2
    refine bodyPost_ret (v := .tuple #[kV x.k, .int .i64 x.v, nV x.t, .bool true]) (by simp [results, Try.results52, go_sem]) rfl ⟨rfl, _, rfl⟩
theorem line_first (qb N : Nat) (lv : Value) (M tk ar : Nat) (R : List Run) (w : World) (hq : QB w qb N lv M tk ar) (h : LnM w lv R) (x : El) (hx : (flat R).head? = some x) :
    Calls Try.prog 84 #[.pointer (some ⟨qb, 1, none⟩)] w fun q w' => q = .returned (pV x) ∧ w' = w := by
  cases R with
  | nil => cases hx
  | cons r t =>
    obtain ⟨g, cap, hlv, h1, h2, h3⟩ := h.outer (i := 0) (by simp)
    rw [List.getElem_cons_zero] at h3
    obtain ⟨g2, cap2, hv, h4, h5, hc⟩ := h.runAt (r := r) (by simp)
    have hne := List.length_pos_iff.2 (h.ne r (by simp))
    have hc0 := hc 0 hne
    have hx0 : r.els[0] = x := by
      simp only [flat, List.map_cons, List.flatten_cons] at hx
      rw [List.head?_append, List.head?_eq_getElem?, List.getElem?_eq_getElem hne] at hx
      exact Option.some.inj hx
    rw [hx0] at hc0
    obtain ⟨_, c1, _, _, _⟩ := hq.cells
    rw [hlv] at c1
    rw [hv] at h3
    rw [List.length_cons] at c1
    clear hq h hlv hv hc hx hx0 h1 h4
    generalize t.length = k at *
    obtain ⟨m, hm⟩ : ∃ m, r.els.length = m + 1 := ⟨r.els.length - 1, by omega⟩
    rw [hm] at h3
    clear hm hne
    go_enter Try.func84, Try.ntmps84
    go_wp2
    go_ret
    exact ⟨rfl, rfl⟩
theorem first_any (F : Nat → Prop) (qb N : Nat) (L : List El) (tk ar : Nat) (w : World) (h : QAt w F qb N L tk ar) :
    Calls Try.prog 51 #[qV qb] w fun q w' => q = .returned (oV L.head?) ∧ w' = w := by
  have HL : Hid (Unit → _) := fun (_ : Unit) => len_any F qb N L tk ar w h
  obtain ⟨lv, M, R, h1, rfl, rfl⟩ := h
  cases hh : (flat R).head? with
  | none =>
    have h0 : (flat R).length = 0 := by rw [List.head?_eq_none_iff.1 hh]; rfl
    rw [h0] at HL
    clear h1 h0 hh
    go_enter Try.func51, Try.ntmps51
    go_wp2_with fail
    refine (HL.out ()).mono ?_
    rintro q w1 ⟨rfl, rfl⟩
    clear HL
    go_wp2
    go_ret
    exact ⟨rfl, rfl⟩
  | some x =>
    have h0 : (flat R).length ≠ 0 := fun e => by rw [List.eq_nil_of_length_eq_zero e] at hh; cases hh
    have HF : Hid (Unit → _) := fun (_ : Unit) => line_first qb N lv M tk ar R w h1.blk h1.ln x hh
    clear h1 hh
    generalize (flat R).length = n at *
    have hn : ¬ ((n : Int) = 0) := by omega
    go_enter Try.func51, Try.ntmps51
    go_wp2_with fail
    refine (HL.out ()).mono ?_
    rintro q w1 ⟨rfl, rfl⟩
    clear HL
    go_wp2_with fail
    refine (HF.out ()).mono ?_
    rintro q w1 ⟨rfl, rfl⟩
    clear HF
    go_wp2
    go_ret
    exact ⟨rfl, rfl⟩
end Go.Proofs.Ytonpdnpfekmapaa.SI
