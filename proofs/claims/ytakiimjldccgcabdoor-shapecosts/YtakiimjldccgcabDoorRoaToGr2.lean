/-
  Sines, the package's and the document's; what is rounded; one pair turned.
-/
import Derived.Test.YtakiimjldccgcabDoorFwnToRpN
import Derived.Test.YtakiimjldccgcabDoorVcaToMkL
import Derived.Test.YtakiimjldccgcabDoorFilToShA
namespace Go.Proofs.YtakiimjldccgcabDoor
open Go.RowKit Go.Lib Go.Maps

/-- The variable holds the sines of a quarter. -/
def Sin (W : World) : Prop := ∀ i, i < 65 → W.cell? ⟨0, i, none⟩ = some (.int .i8 (sT.getD i 0))
theorem Sin.fresh {w W : World} (h : Sin w) (hF : Fresh w W) : Sin W := fun i hi => by
  have hb : 0 < w.heap.size := by have := World.block_lt_of_cell? w _ (h 0 (by decide)); simpa using this
  exact (hF.cell (p := ⟨0, i, none⟩) hb (fun e => e)).trans (h i hi)
theorem Sin.drewN {w : World} (h : Sin w) (n : Nat) : Sin (w.drewN n) := h

set_option maxHeartbeats 400000 in
theorem firstHalf_any (r : Nat) (w : World) (hS : Sin w) (hr : r ≤ 128) :
    Calls Tryd.prog 95 #[zV r] w fun e w' => e = .returned (.int .i8 (sT.getD (min r (128 - r)) 0)) ∧ w' = w := by
  by_cases h : r ≤ 64
  · rw [Nat.min_eq_left (by omega)]
    have g := hS r (by omega)
    generalize sT.getD r 0 = z at *
    go_enter Tryd.func95, Tryd.ntmps95
    go_wp2
    go_ret
    exact ⟨rfl, rfl⟩
  · rw [Nat.min_eq_right (by omega)]
    have g := hS (128 - r) (by omega)
    obtain ⟨q, hq⟩ : ∃ q, 128 - r = q := ⟨_, rfl⟩
    obtain rfl : r = 128 - q := by omega
    rw [hq] at g ⊢
    generalize sT.getD q 0 = z at *
    go_enter Tryd.func95, Tryd.ntmps95
    go_wp2
    go_ret
    exact ⟨rfl, rfl⟩

theorem rem_256 (a : Int) : (a.tmod 256 + 256).tmod 256 = a % 256 := by
  obtain ⟨f1, f2⟩ := tdiv_floor a 256 (by decide)
  have hb := tmod_bounds a 256 (by decide)
  rw [Int.tmod_eq_emod_of_nonneg (by omega)]
  rcases Int.lt_or_le (a.tmod 256) 0 with h | h
  · have := (f1 h).2; omega
  · have := (f2 h).2; omega

set_option maxHeartbeats 400000 in
set_option maxRecDepth 100000 in
theorem Sine_any (a : Int) (w : World) (hS : Sin w) :
    Calls Tryd.prog 81 #[zV a] w fun e w' => e = .returned (.int .i8 (sn a)) ∧ w' = w := by
  have hb := tmod_bounds a 256 (by decide)
  have hq := rem_256 a
  obtain ⟨r, hr⟩ : ∃ r : Nat, a % 256 = r := ⟨(a % 256).toNat, by omega⟩
  rw [hr] at hq
  have hr2 : r < 256 := by omega
  by_cases h : r < 128
  · have H : Hid (Unit → _) := fun (_ : Unit) => firstHalf_any r w hS (by omega)
    rw [← sn_half hr h] at H
    clear hS hr
    go_enter Tryd.func81, Tryd.ntmps81
    go_wp2_with fail
    refine (H.out ()).mono ?_
    rintro e w1 ⟨rfl, rfl⟩
    go_wp2
    go_ret
    exact ⟨rfl, rfl⟩
  · obtain ⟨q, rfl⟩ : ∃ q, r = q + 128 := ⟨r - 128, by omega⟩
    have H : Hid (Unit → _) := fun (_ : Unit) => firstHalf_any q w hS (by omega)
    have e := sn_rest hr
    have hz := sT_in (min q (128 - q)) (by omega)
    rw [e]
    generalize sT.getD (min q (128 - q)) 0 = z at *
    clear hS hr e
    obtain ⟨u, hu⟩ : ∃ u : Int, ((q + 128 : Nat) : Int) = u := ⟨_, rfl⟩
    rw [hu] at hq
    have hu1 : (q : Int) = u - 128 := by omega
    have hu2 : 128 ≤ u ∧ u < 256 := by omega
    rw [hu1] at H
    clear hu hu1 h
    go_enter Tryd.func81, Tryd.ntmps81
    go_wp2_with fail
    refine (H.out ()).mono ?_
    rintro e w1 ⟨rfl, rfl⟩
    go_wp2
    go_ret
    exact ⟨rfl, rfl⟩

theorem sum_i64 {a b c s : Int} (ha : C8 a) (hb : C8 b) (hc : C8 c) (hs : C8 s) : -32768 ≤ a * c - b * s ∧ a * c - b * s ≤ 32768 ∧ -32768 ≤ a * c + b * s ∧ a * c + b * s ≤ 32768 := by
  have h1 := mul8 ha hc
  have h2 := mul8 hb hs
  omega
end Go.Proofs.YtakiimjldccgcabDoor

/-
  Rows that grow, one number at a time.
-/
namespace Go.Proofs.YtakiimjldccgcabDoor
open Go.RowKit Go.Lib Go.Maps

/-- A row that grows. -/
def Grw (k : IntKind) (e : TypeId) (w : World) (f : Nat → Int) (j g c : Nat) (wr : World) : Prop :=
  wr.ownsRow w.heap.size e 1 (.slice (some ⟨g, 0, none⟩) j c) j ((mkL j f).map (Value.int k)) ∧ Fresh w wr
theorem Grw.start {k : IntKind} {e : TypeId} {w W : World} (f : Nat → Int) (hF : Fresh w W) : Grw k e w f 0 W.heap.size 0 (W.alloc (.cells #[] e)) :=
  ⟨own_empty W _ hF.size _, hF.alloc _⟩
theorem Grw.push {k : IntKind} {e s : TypeId} (ht : Ty k e s) {w X : World} {f : Nat → Int} {j g c : Nat} (h : Grw k e w f j g c X) (hj : (j + 1) * kb k ≤ 140737488355328) :
    ∃ g' c' X', (Builtin.append_ #[s, s] s #[.slice (some ⟨g, 0, none⟩) j c, .slice (some ⟨X.heap.size, 0, none⟩) 1 1]).run Tryd.prog (X.alloc (.cells #[.int k (f j)] e)) = .ok (.slice (some ⟨g', 0, none⟩) (j + 1) c') X' ∧ Grw k e w f (j + 1) g' c' X' := by
  obtain ⟨ho, hF⟩ := h
  obtain ⟨g', c', X', h1, h2, _, h4⟩ := Go.Proofs.YtakiimjldccgcabDoor.push ht X w.heap.size g c j (mkL j f) (f j) ho hj hF.size
  refine ⟨g', c', X', h1, by rw [mkL_succ]; exact h2, ?_⟩
  have hg : w.heap.size ≤ g := (own_block ho).1
  exact hF.trans h4 (fun i hi e => by omega)
theorem Grw.drew {k : IntKind} {e : TypeId} {w wr : World} {f : Nat → Int} {j g c : Nat} (h : Grw k e w f j g c wr) (d : Nat) : Grw k e w f j g c (wr.drewN d) := ⟨h.1, h.2.drewN d⟩
theorem Grw.fresh {k : IntKind} {e : TypeId} {w wr : World} {f : Nat → Int} {j g c : Nat} (h : Grw k e w f j g c wr) : Fresh w wr := h.2
theorem Grw.done {k : IntKind} {e : TypeId} {w wr : World} {n g c : Nat} {f : Nat → Int} (h : Grw k e w f n g c wr) (E : Int) : Gives k e (mkL n f) E w (.returned (.tuple #[.slice (some ⟨g, 0, none⟩) n c, zV E])) wr :=
  ⟨_, rfl, by rw [mkL_len]; exact h.1, h.2⟩
theorem Gives_empty (k : IntKind) (e : TypeId) (E : Int) {w W : World} (hF : Fresh w W) : Gives k e [] E w (.returned (.tuple #[.slice (some ⟨W.heap.size, 0, none⟩) 0 0, zV E])) (W.alloc (.cells #[] e)) := ⟨_, rfl, own_empty W _ hF.size _, hF.alloc _⟩

end Go.Proofs.YtakiimjldccgcabDoor

/-
  Two rows that grow beside one another.
-/
namespace Go.Proofs.YtakiimjldccgcabDoor
open Go.RowKit Go.Lib Go.Maps

/-- What a function that makes two lists of numbers leaves: the lists, each in memory of its own, and an error. -/
def Gives2 (A B : List Int) (E : Int) (w : World) (x : Ending) (w' : World) : Prop :=
  ∃ u v, x = .returned (.tuple #[u, v, zV E]) ∧ w'.ownsRow w.heap.size 68 1 u A.length (A.map (Value.int .i8)) ∧ w'.ownsRow w.heap.size 68 1 v B.length (B.map (Value.int .i8)) ∧ (∀ g, u.ownBlock = some g → v.ownBlock ≠ some g) ∧ Fresh w w'
theorem Gives2.none (E : Int) (w : World) : Gives2 [] [] E w (.returned (.tuple #[.slice none 0 0, .slice none 0 0, zV E])) w := ⟨_, _, rfl, own_nil _ _ _, own_nil _ _ _, fun g e => by simp [Value.ownBlock] at e, Kept.refl _ _⟩
theorem Gives2.rows {A B : List Int} {E : Int} {w w' : World} {x : Ending} (h : Gives2 A B E w x w') (ha : A.length * 1 ≤ 140737488351232) (hb : B.length * 1 ≤ 140737488351232) (za : ∀ z ∈ A, C8 z) (zb : ∀ z ∈ B, C8 z) :
    ∃ u v, x = .returned (.tuple #[u, v, zV E]) ∧ Rk .i8 (fun b => w.heap.size ≤ b ∧ b < w'.heap.size) w' u A ∧ Rk .i8 (fun b => w.heap.size ≤ b ∧ b < w'.heap.size) w' v B ∧ Fresh w w' := by
  obtain ⟨u, v, h1, h2, h3, _, h4⟩ := h
  exact ⟨u, v, h1, rk_of_own h2 ha za, rk_of_own h3 hb zb, h4⟩
/-- Two rows that grow. -/
def Gr2 (w : World) (f1 f2 : Nat → Int) (j1 j2 g1 c1 g2 c2 : Nat) (X : World) : Prop :=
  X.ownsRow w.heap.size 68 1 (.slice (some ⟨g1, 0, none⟩) j1 c1) j1 ((mkL j1 f1).map (Value.int .i8)) ∧ X.ownsRow w.heap.size 68 1 (.slice (some ⟨g2, 0, none⟩) j2 c2) j2 ((mkL j2 f2).map (Value.int .i8)) ∧ g1 ≠ g2 ∧ Fresh w X
theorem Gr2.fresh {w X X' : World} {f1 f2 : Nat → Int} {j1 j2 g1 c1 g2 c2 : Nat} (h : Gr2 w f1 f2 j1 j2 g1 c1 g2 c2 X) (hF : Fresh X X') : Gr2 w f1 f2 j1 j2 g1 c1 g2 c2 X' :=
  ⟨owns_kept h.1 hF (fun _ _ e => e), owns_kept h.2.1 hF (fun _ _ e => e), h.2.2.1, h.2.2.2.trans hF (fun _ _ e => e)⟩
theorem Gr2.old {w X : World} {f1 f2 : Nat → Int} {j1 j2 g1 c1 g2 c2 : Nat} (h : Gr2 w f1 f2 j1 j2 g1 c1 g2 c2 X) : Fresh w X := h.2.2.2
theorem Gr2.flip {w X : World} {f1 f2 : Nat → Int} {j1 j2 g1 c1 g2 c2 : Nat} (h : Gr2 w f1 f2 j1 j2 g1 c1 g2 c2 X) : Gr2 w f2 f1 j2 j1 g2 c2 g1 c1 X := ⟨h.2.1, h.1, fun e => h.2.2.1 e.symm, h.2.2.2⟩
theorem Gr2.push {w X : World} {f1 f2 : Nat → Int} {j1 j2 g1 c1 g2 c2 : Nat} (h : Gr2 w f1 f2 j1 j2 g1 c1 g2 c2 X) (hj : (j1 + 1) * 1 ≤ 140737488355328) :
    ∃ g' c' X', (Builtin.append_ #[45, 45] 45 #[.slice (some ⟨g1, 0, none⟩) j1 c1, .slice (some ⟨X.heap.size, 0, none⟩) 1 1]).run Tryd.prog (X.alloc (.cells #[.int .i8 (f1 j1)] 68)) = .ok (.slice (some ⟨g', 0, none⟩) (j1 + 1) c') X' ∧ Gr2 w f1 f2 (j1 + 1) j2 g' c' g2 c2 X' := by
  obtain ⟨ho, ho2, hne, hF⟩ := h
  obtain ⟨g', c', X', h1, h2, h3, h4⟩ := Go.Proofs.YtakiimjldccgcabDoor.push ty8 X w.heap.size g1 c1 j1 (mkL j1 f1) (f1 j1) ho hj hF.size
  have b1 := own_block ho
  have b2 := own_block ho2
  refine ⟨g', c', X', h1, by rw [mkL_succ]; exact h2, owns_kept ho2 h4 (fun g e => by simp [Value.ownBlock] at e; omega), by omega, hF.trans h4 (fun i hi e => by omega)⟩
theorem Gr2.push' {w X : World} {f1 f2 : Nat → Int} {j1 j2 g1 c1 g2 c2 : Nat} (h : Gr2 w f1 f2 j1 j2 g1 c1 g2 c2 X) (hj : (j2 + 1) * 1 ≤ 140737488355328) :
    ∃ g' c' X', (Builtin.append_ #[45, 45] 45 #[.slice (some ⟨g2, 0, none⟩) j2 c2, .slice (some ⟨X.heap.size, 0, none⟩) 1 1]).run Tryd.prog (X.alloc (.cells #[.int .i8 (f2 j2)] 68)) = .ok (.slice (some ⟨g', 0, none⟩) (j2 + 1) c') X' ∧ Gr2 w f1 f2 j1 (j2 + 1) g1 c1 g' c' X' := by
  obtain ⟨g', c', X', h1, h2⟩ := h.flip.push hj
  exact ⟨g', c', X', h1, h2.flip⟩
theorem Gr2.done {w X : World} {f1 f2 : Nat → Int} {n g1 c1 g2 c2 : Nat} (h : Gr2 w f1 f2 n n g1 c1 g2 c2 X) (E : Int) : Gives2 (mkL n f1) (mkL n f2) E w (.returned (.tuple #[.slice (some ⟨g1, 0, none⟩) n c1, .slice (some ⟨g2, 0, none⟩) n c2, zV E])) X :=
  ⟨_, _, rfl, by rw [mkL_len]; exact h.1, by rw [mkL_len]; exact h.2.1, fun g e => by simp [Value.ownBlock] at e ⊢; intro e2; exact h.2.2.1 (e.trans e2.symm), h.2.2.2⟩
/-- Two rows made with room. -/
theorem Gr2.made (w X : World) (f1 f2 : Nat → Int) (n : Nat) (hX : Fresh w X) (hn : n ≤ 140737488351232) :
    Gr2 w f1 f2 0 0 X.heap.size n (X.heap.size + 1) n ((X.alloc (.cells ((List.replicate n (0 : Int)).map (Value.int .i8)).toArray 68)).alloc (.cells ((List.replicate n (0 : Int)).map (Value.int .i8)).toArray 68)) := by
  have h1 := own_made .i8 68 X w.heap.size hX.size 0 n (Nat.zero_le _) hn
  have h2 := own_made .i8 68 (X.alloc (.cells ((List.replicate n (0 : Int)).map (Value.int .i8)).toArray 68)) w.heap.size (by have := hX.size; simp; omega) 0 n (Nat.zero_le _) hn
  rw [World.size_alloc] at h2
  exact ⟨owns_kept h1 ((Kept.refl (fun _ => False) _).alloc _) (fun _ _ e => e), h2, by omega, (hX.alloc _).alloc _⟩
/-- Two empty rows. -/
theorem Gr2.start (w X : World) (f1 f2 : Nat → Int) (hX : Fresh w X) : Gr2 w f1 f2 0 0 X.heap.size 0 (X.heap.size + 1) 0 ((X.alloc (.cells #[] 68)).alloc (.cells #[] 68)) := by
  have h1 := own_empty X w.heap.size hX.size 68
  have h2 := own_empty (X.alloc (.cells #[] 68)) w.heap.size (by have := hX.size; simp; omega) 68
  rw [World.size_alloc] at h2
  exact ⟨owns_kept h1 ((Kept.refl (fun _ => False) _).alloc _) (fun _ _ e => e), h2, by omega, (hX.alloc _).alloc _⟩
end Go.Proofs.YtakiimjldccgcabDoor
