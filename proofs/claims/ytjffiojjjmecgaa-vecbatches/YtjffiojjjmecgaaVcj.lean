/-
  Lists of rows held against one another; a list of rows copied.
-/
import Derived.Test.YtjffiojjjmecgaaVch
import Derived.Test.YtjffiojjjmecgaaVci
namespace Go.Proofs.Ytjffiojjjmecgaa
open Go.RowKit Go.Lib Go.Maps

set_option maxHeartbeats 2000000 in
set_option maxRecDepth 100000 in
theorem rows64_any (p q : Nat → Prop) (a b : Value) (L : List (List Int)) (w : World) (ha : LL .i64 p w a L) (hb : LL .i64 q w b L) :
    Calls Try.prog 18 #[a, b] w fun e w' => e = .returned (.bool true) ∧ ∃ n, w' = w.drewN n := by
  have hmany := ha.many
  obtain ⟨ao, ac, rfl, _⟩ := ha.shape
  obtain ⟨bo, bc, rfl, _⟩ := hb.shape
  obtain ⟨_, _, hca⟩ := ha.cells
  obtain ⟨_, _, hcb⟩ := hb.cells
  obtain ⟨n, hn⟩ : ∃ n, L.length = n := ⟨_, rfl⟩
  rw [hn] at hca hcb hmany ⊢
  clear ha hb hn
  go_enter Try.func18, Try.ntmps18
  go_wp2
  go_loopw [13] (fun i wr => ∃ j : Nat, j ≤ n ∧ i = zV j ∧ ∃ n, wr = w.drewN n) (fun i _ => n - (RowKit.intOf i).toNat)
  case atStart => exact ⟨0, Nat.zero_le _, rfl, 0, rfl⟩
  case round =>
    obtain ⟨j, hj, rfl, d, hd⟩ := hrel
    have HWr : Hid (wr = w.drewN d ∧ Fresh w wr) := ⟨hd, by rw [hd]; exact kept_drewN _ _ _⟩
    clear hd
    by_cases hlt : j < n
    · obtain ⟨ab, aoff, rfl, _, k1, h1⟩ := hca (by omega)
      obtain ⟨bb, boff, rfl, _, k2, h2⟩ := hcb (by omega)
      obtain ⟨u1, g1, r1⟩ := h1 j hlt
      obtain ⟨u2, g2, r2⟩ := h2 j hlt
      have HS : Hid (∀ m, Calls Try.prog 15 #[u1, u2] (wr.drewN m) fun e w' => e = .returned (.bool true) ∧ ∃ n, w' = (wr.drewN m).drewN n) := fun m => same64_any p q u1 u2 _ _ ((r1.fresh (HWr.out.2)).fresh (kept_drewN _ _ _)) ((r2.fresh (HWr.out.2)).fresh (kept_drewN _ _ _))
      have g1 : wr.cell? ⟨ab, aoff + j, none⟩ = some u1 := (HWr.out.2.cell (p := ⟨ab, aoff + j, none⟩) k1 (fun e => e)).trans g1
      have g2 : wr.cell? ⟨bb, boff + j, none⟩ = some u2 := (HWr.out.2.cell (p := ⟨bb, boff + j, none⟩) k2 (fun e => e)).trans g2
      obtain ⟨a1, l1, c1, q1⟩ : ∃ a1 l1 c1, u1 = .slice a1 l1 c1 := let ⟨x, y, h, _⟩ := r1.shape; ⟨x, _, y, h⟩
      obtain ⟨a2, l2, c2, q2⟩ : ∃ a2 l2 c2, u2 = .slice a2 l2 c2 := let ⟨x, y, h, _⟩ := r2.shape; ⟨x, _, y, h⟩
      subst q1
      subst q2
      have hlt' : (j : Int) < (n : Int) := by omega
      clear h1 h2 hca hcb r1 r2
      go_wp2_with fail
      go_quiet ((go_at_call 15; exact Calls.quiet_of (HS.out _)))
      go_wp2
      go_roundw
      case rel => exact ⟨j + 1, hlt, by go_num, d + nq, by rw [HWr.out.1, World.drewN_drewN]⟩
      case measure => simp [RowKit.intOf]; omega
    · obtain rfl : j = n := by omega
      clear hca hcb
      go_wp2
      go_ret
      exact ⟨rfl, d, HWr.out.1⟩

/-- Rows that are values: each its own. -/
def Us (k : IntKind) (p : Nat → Prop) (W : World) (us : List Value) (L : List (List Int)) : Prop := us.length = L.length ∧ ∀ i, i < L.length → Rk k p W (us.getD i (.slice none 0 0)) (L.getD i [])
theorem Us.kept {k : IntKind} {p : Nat → Prop} {S : Nat → Prop} {W W' : World} {us : List Value} {L : List (List Int)} (h : Us k p W us L) (hk : Kept S W W') (hn : ∀ b, p b → ¬ S b) : Us k p W' us L := ⟨h.1, fun i hi => (h.2 i hi).kept hk hn⟩
theorem Us.mono {k : IntKind} {p q : Nat → Prop} {W : World} {us : List Value} {L : List (List Int)} (h : Us k p W us L) (hpq : ∀ b, p b → q b) : Us k q W us L := ⟨h.1, fun i hi => (h.2 i hi).mono hpq⟩
theorem Us.snoc {k : IntKind} {p : Nat → Prop} {W : World} {us : List Value} {L : List (List Int)} {u : Value} {z : List Int} (h : Us k p W us L) (hz : Rk k p W u z) : Us k p W (us ++ [u]) (L ++ [z]) := by
  refine ⟨by simp [h.1], fun i hi => ?_⟩
  rcases Nat.lt_or_ge i L.length with e | e
  · have := h.2 i e
    rwa [List.getD_eq_getElem?_getD, List.getD_eq_getElem?_getD, List.getElem?_append_left (by rw [h.1]; exact e), List.getElem?_append_left e, ← List.getD_eq_getElem?_getD, ← List.getD_eq_getElem?_getD]
  · have : i = L.length := by simp at hi; omega
    subst this
    rw [List.getD_eq_getElem?_getD, List.getD_eq_getElem?_getD, List.getElem?_append_right (by rw [h.1]; exact Nat.le_refl _), List.getElem?_append_right (Nat.le_refl _), h.1, Nat.sub_self]
    exact hz
theorem Us.nil (k : IntKind) (p : Nat → Prop) (W : World) : Us k p W [] [] := ⟨rfl, fun i hi => by simp at hi⟩
/-- A list of one's own whose elements are rows. -/
theorem ll_of_own {k : IntKind} {B : Nat} {e : TypeId} {w : World} {v : Value} {n : Nat} {us : List Value} {L : List (List Int)} (h : w.ownsRow B e 1 v n us) (hu : Us k (fun b => B ≤ b ∧ b < w.heap.size) w us L) (hl : L.length * 24 ≤ 140737488351232) : LL k (fun b => B ≤ b ∧ b < w.heap.size) w v L := by
  have hn : L.length = n := by have := h.1; rw [← hu.1]; simpa using this
  subst hn
  rcases h.2 with ⟨rfl, h0⟩ | ⟨g, cap, cur, rfl, hb, hg, hnc, _⟩
  · have e : L = [] := List.eq_nil_of_length_eq_zero h0
    subst e
    exact ⟨none, 0, rfl, by simp, fun h => absurd rfl h, fun _ => rfl, by simp⟩
  · refine ⟨_, cap, rfl, hl, fun _ => ⟨g, 0, rfl, ⟨hb, lt_of_heap hg⟩, lt_of_heap hg, fun i hi => ⟨us.getD i (.slice none 0 0), ?_, hu.2 i hi⟩⟩, fun e => (by cases e), hnc⟩
    rw [Nat.zero_add, h.cellAt i (by omega), List.getD_eq_getElem?_getD, List.getElem?_eq_getElem (by rw [hu.1]; exact hi)]
    rfl

/-- A type of rows, and that of their lists. -/
structure TyL (e s : TypeId) : Prop where
  u : Try.prog.underlying s = some (.slice e)
  info : (Try.prog.info? e).map (fun i => (i.zero, i.size, i.bytes)) = some (some (.slice none 0 0), 1, 24)
theorem tyL8 : TyL 22 32 := ⟨Try.underlying32, by kernel_rfl⟩
theorem tyL64 : TyL 36 42 := ⟨Try.underlying42, by kernel_rfl⟩
/-- One row behind a list of rows of one's own. -/
theorem pushL {e s : TypeId} (ht : TyL e s) (X : World) (B : Nat) (v : Value) (j : Nat) (us : List Value) (u : Value) (hu1 : u.oneCell' = true) (hown : X.ownsRow B e 1 v j us) (hj : (j + 1) * 24 ≤ 140737488355328) (hB : B ≤ X.heap.size) :
    ∃ v' X', (Builtin.append_ #[s, s] s #[v, .slice (some ⟨X.heap.size, 0, none⟩) 1 1]).run Try.prog (X.alloc (.cells #[u] e)) = .ok v' X' ∧
      X'.ownsRow B e 1 v' (j + 1) (us ++ [u]) ∧ Kept (fun b => v.ownBlock = some b) X X' ∧ (v'.ownBlock = v.ownBlock ∨ v'.ownBlock = some (X.heap.size + 1)) := by
  obtain ⟨i0, hi0, hz0, hz1, hz2⟩ := info_parts ht.info
  have hY : (X.alloc (.cells #[u] e)).ownsRow B e 1 v j us := owns_kept hown ((Kept.refl (fun _ => False) X).alloc _) (fun _ _ e => e)
  obtain ⟨v', w', hrun, ho, hg, _, hb⟩ := run_append_own_at (P := Try.prog) (X.alloc (.cells #[u] e)) B s s e i0 _ 1 24 ht.u hi0 hz0 hz1 hz2 rfl (by omega) _ j _ hY ⟨X.heap.size, 0, none⟩ 1 1 [u] rfl (fun q x hq => cell_one_new X u e q x hq) (fun x hx => by simp at hx; subst hx; exact hu1) (by unfold maxLen; omega) hj (by simp; omega)
  exact ⟨v', w', hrun, ho, ((Kept.refl (fun b => v.ownBlock = some b) X).alloc _).grown hg (fun q _ e => e), by rw [World.size_alloc] at hb; exact hb⟩
theorem Rk.oneCell {k : IntKind} {p : Nat → Prop} {W : World} {v : Value} {zs : List Int} (h : Rk k p W v zs) : v.oneCell' = true := by
  obtain ⟨ao, cap, rfl, _⟩ := h
  rfl
theorem own_ge {w : World} {base : Nat} {e : TypeId} {v : Value} {n : Nat} {xs : List Value} (h : w.ownsRow base e 1 v n xs) {k : Nat} (hk : v.ownBlock = some k) : base ≤ k := by
  rcases h.2 with ⟨rfl, _⟩ | ⟨g', cap', cur, hv, hb, _⟩
  · simp [Value.ownBlock] at hk
  · rw [hv] at hk; simp [Value.ownBlock] at hk; omega

end Go.Proofs.Ytjffiojjjmecgaa
