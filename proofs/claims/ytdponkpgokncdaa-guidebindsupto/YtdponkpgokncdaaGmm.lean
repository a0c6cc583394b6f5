/-
  Rows of one's own, side by side: what a store into one, an append to one, an append beside one makes of them. For the statements on memory.
-/
import Derived.Test.YtdponkpgokncdaaGvl
import Derived.ArgAppend
namespace Go.Proofs.Ytdponkpgokncdaa
open Go.RowKit Go.Lib Go.Maps

/-- A row: its elements' type, its value, its cells. -/
structure Rr where
  T : TypeId
  v : Value
  xs : List Value
def Rr.At (B : Nat) (X : World) (r : Rr) : Prop := X.ownsRow B r.T 1 r.v r.xs.length r.xs
/-- Rows that lie in blocks of their own. -/
structure Rs (B : Nat) (X : World) (l : List Rr) : Prop where
  own : ∀ r ∈ l, r.At B X
  nd : l.Pairwise (fun a b => ∀ k, a.v.ownBlock = some k → b.v.ownBlock ≠ some k)
theorem Rr.At.lt {B : Nat} {X : World} {r : Rr} (h : r.At B X) {k : Nat} (hk : r.v.ownBlock = some k) : B ≤ k ∧ k < X.heap.size := by
  rcases h.2 with ⟨e, _⟩ | ⟨g, cap, cur, hv, hb, hh, _⟩
  · rw [e] at hk; simp [Value.ownBlock] at hk
  · rw [hv] at hk; simp [Value.ownBlock] at hk; subst hk; exact ⟨hb, lt_of_heap hh⟩
theorem Rs.kept {B : Nat} {S : Nat → Prop} {X X' : World} {l : List Rr} (h : Rs B X l) (hk : Kept S X X') (hn : ∀ r ∈ l, ∀ k, r.v.ownBlock = some k → ¬ S k) : Rs B X' l :=
  ⟨fun r hr => owns_kept (h.own r hr) hk (hn r hr), h.nd⟩
theorem Rs.fresh {B : Nat} {X X' : World} {l : List Rr} (h : Rs B X l) (hk : Fresh X X') : Rs B X' l := h.kept hk (fun _ _ _ _ e => e)
theorem Rs.add {B : Nat} {X : World} {l : List Rr} {r : Rr} (h : Rs B X l) (hr : r.At B X) (hn : ∀ k, r.v.ownBlock = some k → ∀ s ∈ l, s.v.ownBlock ≠ some k) : Rs B X (r :: l) :=
  ⟨fun s hs => (List.mem_cons.1 hs).elim (fun e => by rw [e]; exact hr) (h.own s), List.pairwise_cons.2 ⟨fun s hs k hk => hn k hk s hs, h.nd⟩⟩
/-- A row that was made behind a world, beside the rows of that world. -/
theorem Rs.made {B : Nat} {X X' : World} {l : List Rr} {r : Rr} (h : Rs B X l) (hk : Fresh X X') (hB : B ≤ X.heap.size) (hr : r.At X.heap.size X') : Rs B X' (r :: l) := by
  refine (h.fresh hk).add ?_ (fun k hk2 s hs e => ?_)
  · rcases hr with ⟨h1, h2 | ⟨g, cap, cur, hv, hb, hh⟩⟩
    · exact ⟨h1, .inl h2⟩
    · exact ⟨h1, .inr ⟨g, cap, cur, hv, by omega, hh⟩⟩
  · have h1 := (hr.lt hk2).1
    have h2 := ((h.own s hs).lt e).2
    omega
theorem Rs.perm {B : Nat} {X : World} {l m : List Rr} (h : Rs B X l) (hp : l.Perm m) : Rs B X m :=
  ⟨fun r hr => h.own r (hp.mem_iff.2 hr), (hp.pairwise_iff (fun {_ _} hxy k hy hx => hxy k hx hy)).1 h.nd⟩
theorem Rs.tail {B : Nat} {X : World} {r : Rr} {l : List Rr} (h : Rs B X (r :: l)) : Rs B X l := ⟨fun s hs => h.own s (List.mem_cons_of_mem _ hs), (List.pairwise_cons.1 h.nd).2⟩
theorem Rs.head {B : Nat} {X : World} {r : Rr} {l : List Rr} (h : Rs B X (r :: l)) : r.At B X := h.own r List.mem_cons_self
theorem Rs.apart {B : Nat} {X : World} {r : Rr} {l : List Rr} (h : Rs B X (r :: l)) : ∀ s ∈ l, ∀ k, r.v.ownBlock = some k → s.v.ownBlock ≠ some k := (List.pairwise_cons.1 h.nd).1
/-- The first row is changed within its block, or laid anew. -/
theorem Rs.turn {B : Nat} {X X' : World} {r r' : Rr} {l : List Rr} (h : Rs B X (r :: l)) (hk : Kept (fun k => r.v.ownBlock = some k) X X') (hr : r'.At B X') (hb : ∀ k, r'.v.ownBlock = some k → r.v.ownBlock = some k ∨ X.heap.size ≤ k) : Rs B X' (r' :: l) := by
  have h1 : Rs B X' l := h.tail.kept hk (fun s hs k hk2 e => h.apart s hs k e hk2)
  refine h1.add hr (fun k hk2 s hs e => ?_)
  rcases hb k hk2 with e2 | e2
  · exact h.apart s hs k e2 e
  · have := ((h.tail.own s hs).lt e).2
    omega
/-- A store into the first row. -/
theorem Rs.store {B g n cap i : Nat} {X : World} {T : TypeId} {xs : List Value} {u : Value} {l : List Rr} (h : Rs B X (⟨T, .slice (some ⟨g, 0, none⟩) n cap, xs⟩ :: l)) (hn : xs.length = n) : Rs B (X.setCell ⟨g, i, none⟩ u) (⟨T, .slice (some ⟨g, 0, none⟩) n cap, xs.set i u⟩ :: l) := by
  refine h.turn ((Kept.refl _ X).setCell (p := ⟨g, i, none⟩) (fun _ => by simp [Value.ownBlock]) u) ?_ (fun k hk => .inl hk)
  have h1 : X.ownsRow B T 1 (.slice (some ⟨g, 0, none⟩) n cap) n xs := by have := h.head; unfold Rr.At at this; rw [hn] at this; exact this
  have h2 := own_setB (i := i) (x := u) h1
  unfold Rr.At
  rw [List.length_set, hn]
  exact h2
/-- A beginning of a row. -/
theorem own_begins {B g m n cap : Nat} {X : World} {T : TypeId} {ys : List Value} (h : X.ownsRow B T 1 (.slice (some ⟨g, 0, none⟩) m cap) m ys) (hn : n ≤ m) : X.ownsRow B T 1 (.slice (some ⟨g, 0, none⟩) n cap) n (ys.take n) := by
  have hl := h.1
  rcases h.2 with ⟨e, _⟩ | ⟨g', cap', cur, hv, hb, hh, hnc, hcm, hsz, htk⟩
  · cases e
  · cases hv
    refine ⟨by rw [List.length_take]; omega, .inr ⟨g, cap, cur, rfl, hb, hh, by omega, hcm, hsz, ?_⟩⟩
    rw [← htk, List.take_take, Nat.mul_one, Nat.mul_one, Nat.min_eq_left hn]

/-- A row that is grown beside the first row of these: it lies in that row's block behind it, or in a block of its own. -/
def Bes (B : Nat) (X : World) (r : Rr) (l : List Rr) (gv : Value) (m : Nat) : Prop :=
  Rs B X (r :: l) ∧ ∃ ys, ys.length = m ∧ X.ownsRow B r.T 1 gv m ys ∧ (r.xs.length ≤ m ∧ ys.take r.xs.length = r.xs) ∧
    ((∃ g cap, r.v = .slice (some ⟨g, 0, none⟩) r.xs.length cap ∧ gv = .slice (some ⟨g, 0, none⟩) m cap) ∨ (∀ k, gv.ownBlock = some k → ∀ s ∈ r :: l, s.v.ownBlock ≠ some k))
theorem Bes.start {B : Nat} {X : World} {r : Rr} {l : List Rr} (h : Rs B X (r :: l)) : Bes B X r l r.v r.xs.length := by
  refine ⟨h, r.xs, rfl, h.head, ⟨Nat.le_refl _, List.take_length⟩, ?_⟩
  rcases h.head.2 with ⟨e, _⟩ | ⟨g, cap, cur, hv, _⟩
  · exact .inr (fun k hk => by rw [e] at hk; simp [Value.ownBlock] at hk)
  · exact .inl ⟨g, cap, hv, hv⟩
/-- One more behind it. -/
theorem Bes.push {B : Nat} {X : World} {r : Rr} {l : List Rr} {gv u z : Value} {m bytes : Nat} {t ty : TypeId} {i0 : TypeInfo} (h : Bes B X r l gv m) (hB : B ≤ X.heap.size) (ht : Try.prog.underlying t = some (.slice r.T)) (hi : Try.prog.info? r.T = some i0) (hz0 : i0.zero = some z) (hz1 : i0.size = 1) (hz2 : i0.bytes = bytes) (hzc : z.cells.size = 1)
    (hu : u.oneCell' = true) (hm1 : m + 1 ≤ maxLen) (hm2 : (m + 1) * bytes ≤ 140737488355328) :
    ∃ gv' X', (Builtin.append_ #[t, t] ty #[gv, .slice (some ⟨X.heap.size, 0, none⟩) 1 1]).run Try.prog (X.alloc (.cells #[u] r.T)) = .ok gv' X' ∧ Bes B X' r l gv' (m + 1) ∧ (∀ k, k < B → X'.heap[k]? = X.heap[k]?) ∧ X'.os = X.os ∧ X'.tape = X.tape ∧ X'.output = X.output ∧ X.heap.size ≤ X'.heap.size := by
  obtain ⟨hR, ys, hyl, hown, ⟨hle, hpre⟩, hcase⟩ := h
  have hpre' : r.xs.length ≤ m + 1 ∧ (ys ++ [u]).take r.xs.length = r.xs := ⟨by omega, by rw [List.take_append_of_le_length (by omega)]; exact hpre⟩
  have hFY : Fresh X (X.alloc (.cells #[u] r.T)) := (Kept.refl _ X).alloc _
  have hYown : (X.alloc (.cells #[u] r.T)).ownsRow B r.T 1 gv m ys := owns_kept hown hFY (fun _ _ e => e)
  have hnew := fun j w hj => cell_one_new X u r.T j w hj
  have hu1 : ∀ w ∈ [u], w.oneCell' = true := fun w hw => by simp at hw; subst hw; exact hu
  rcases hcase with ⟨g, cap, hrv, hgv⟩ | hap
  · subst hgv
    by_cases hroom : m + 1 ≤ cap
    · obtain ⟨X', hrun, hown', hgrow⟩ := run_append_fits (P := Try.prog) (X.alloc (.cells #[u] r.T)) B t ty r.T i0 1 ht hi hz1 g m cap ys hYown ⟨X.heap.size, 0, none⟩ 1 1 [u] rfl hnew hu1 hroom
      have hk : Kept (fun k => k = g) X X' := ((Kept.refl (fun k => k = g) X).alloc _).grown hgrow (fun k _ e => by simp at e; exact e.symm)
      have hgB : B ≤ g := by
        rcases hown.2 with ⟨e, _⟩ | ⟨g', cap', cur, hv, hb, _⟩
        · cases e
        · cases hv; exact hb
      refine ⟨_, X', hrun, ⟨?_, ys ++ [u], by simp [hyl], hown', hpre', .inl ⟨g, cap, hrv, rfl⟩⟩, fun k hk2 => ?_, hk.os, hk.tape, hk.output, hk.size⟩
      · refine hR.turn (r' := r) (hk.mono (fun k _ e => by rw [hrv, e]; simp [Value.ownBlock])) ?_ (fun k e => .inl e)
        have h2 := own_begins hown' (n := r.xs.length) (by omega)
        rw [List.take_append_of_le_length (by omega), hpre] at h2
        unfold Rr.At
        rw [hrv]
        exact h2
      · rcases Nat.lt_or_ge k X.heap.size with e | e
        · exact hk.block k e (by omega)
        · omega
    · have hcm : m = cap := by
        rcases hown.2 with ⟨e, _⟩ | ⟨g', cap', cur, hv, _, _, hnc, _⟩
        · cases e
        · cases hv; omega
      obtain ⟨gv', X', hrun, hown', hgrow⟩ := run_append_arg_grows (P := Try.prog) (X.alloc (.cells #[u] r.T)) t ty r.T i0 z 1 bytes ht hi hz0 hz1 hz2 hzc (by omega) ⟨g, 0, none⟩ m cap ys (by omega) (fun j w hj => by
        have hj' : j < m := by have := (List.getElem?_eq_some_iff.1 hj).1; omega
        rw [Addr.add_lit, Nat.zero_add, hYown.cellAt j (by omega)]
        exact hj) ⟨X.heap.size, 0, none⟩ 1 1 [u] rfl hnew (by omega) hm1 hm2
      have hk : Fresh X X' := hFY.grown hgrow (fun k _ e => by cases e)
      have hgt : ∀ k, gv'.ownBlock = some k → X.heap.size ≤ k := fun k e => by
        have h3 := (Rr.At.lt (r := ⟨r.T, gv', ys ++ [u]⟩) (B := (X.alloc (.cells #[u] r.T)).heap.size) (by unfold Rr.At; rw [List.length_append, hyl]; exact hown') e).1
        simp at h3
        omega
      refine ⟨gv', X', hrun, ⟨hR.fresh hk, ys ++ [u], by simp [hyl], ?_, hpre', .inr (fun k e s hs e2 => ?_)⟩, fun k hk2 => hk.block k (by omega) (fun e => e), hk.os, hk.tape, hk.output, hk.size⟩
      · rcases hown' with ⟨h1, h2 | ⟨g', cap', cur, hv, hb, hh⟩⟩
        · exact ⟨h1, .inl h2⟩
        · exact ⟨h1, .inr ⟨g', cap', cur, hv, by simp at hb; omega, hh⟩⟩
      · have h4 := ((hR.own s hs).lt e2).2
        have := hgt k e
        omega
  · obtain ⟨gv', X', hrun, hown', hgrow, _, hbl⟩ := run_append_own_at (P := Try.prog) (X.alloc (.cells #[u] r.T)) B t ty r.T i0 z 1 bytes ht hi hz0 hz1 hz2 hzc (by omega) gv m ys hYown ⟨X.heap.size, 0, none⟩ 1 1 [u] rfl hnew hu1 hm1 hm2 (by simp; omega)
    have hk : Kept (fun k => gv.ownBlock = some k) X X' := ((Kept.refl (fun k => gv.ownBlock = some k) X).alloc _).grown hgrow (fun k _ e => e)
    refine ⟨gv', X', hrun, ⟨hR.kept hk (fun s hs k e e2 => hap k e2 s hs e), ys ++ [u], by simp [hyl], hown', hpre', .inr (fun k e s hs e2 => ?_)⟩, fun k hk2 => hk.block k (by omega) (fun e => ?_), hk.os, hk.tape, hk.output, hk.size⟩
    · rcases hbl with e3 | e3
      · rw [e3] at e
        exact hap k e s hs e2
      · rw [e3] at e
        have h4 := ((hR.own s hs).lt e2).2
        simp at e
        omega
    · have := (Rr.At.lt (r := ⟨r.T, gv, ys⟩) (B := B) (by unfold Rr.At; rw [hyl]; exact hown) e).1
      omega
end Go.Proofs.Ytdponkpgokncdaa
