/-
  Rows that are being filled; the cells of a row, whatever is made besides.
-/
import Derived.Test.YtakiimjldccgcabDoorVcaToMkL
import Derived.Test.YtakiimjldccgcabDoorVcNToFrQ
import Derived.BigQuiet
namespace Go.Proofs.YtakiimjldccgcabDoor
open Go.RowKit Go.Lib Go.Maps

/-- A row that is being filled. -/
abbrev Fil (k : IntKind) (e : TypeId) (w : World) (n : Nat) (f : Nat → Int) (j : Nat) (wr : World) : Prop :=
  wr.ownsRow w.heap.size e 1 (.slice (some ⟨w.heap.size, 0, none⟩) n n) n ((mkL j f ++ List.replicate (n - j) 0).map (Value.int k)) ∧ Fresh w wr
theorem Fil.start {k : IntKind} {e : TypeId} (w : World) (n : Nat) (f : Nat → Int) (hn : n ≤ 140737488351232) : Fil k e w n f 0 (w.alloc (.cells ((List.replicate n (0 : Int)).map (Value.int k)).toArray e)) :=
  ⟨own_made k e w w.heap.size (Nat.le_refl _) n n (Nat.le_refl _) hn, (Kept.refl _ w).alloc _⟩
theorem Fil.next {k : IntKind} {e : TypeId} {w wr : World} {n : Nat} {f : Nat → Int} {j : Nat} (h : Fil k e w n f j wr) (hj : j < n) : Fil k e w n f (j + 1) (wr.setCell ⟨w.heap.size, j, none⟩ (.int k (f j))) := by
  refine ⟨?_, h.2.setCell (fun e => absurd e (Nat.lt_irrefl _)) _⟩
  have := own_setB (i := j) (x := Value.int k (f j)) h.1
  rw [← List.map_set, show n - j = (n - (j + 1)) + 1 by omega, set_at (mkL_len j f)] at this
  rw [mkL_succ]
  exact this
theorem Fil.drew {k : IntKind} {e : TypeId} {w wr : World} {n : Nat} {f : Nat → Int} {j : Nat} (h : Fil k e w n f j wr) (d : Nat) : Fil k e w n f j (wr.drewN d) := ⟨h.1, h.2.drewN d⟩
theorem Fil.done {k : IntKind} {e : TypeId} {w wr : World} {n : Nat} {f : Nat → Int} (h : Fil k e w n f n wr) (E : Int) : Gives k e (mkL n f) E w (.returned (.tuple #[.slice (some ⟨w.heap.size, 0, none⟩) n n, zV E])) wr := by
  refine ⟨_, rfl, ?_, h.2⟩
  have := h.1
  rw [Nat.sub_self, List.replicate_zero, List.append_nil] at this
  rw [mkL_len]
  exact this
/-- The cells of a row, whatever is made besides. -/
theorem Rk.stay {k : IntKind} {p : Nat → Prop} {w : World} {ao : Option Addr} {n cap : Nat} {zs : List Int} (h : Rk k p w (.slice ao n cap) zs) : 0 < n → ∃ b off, ao = some ⟨b, off, none⟩ ∧ ∀ W, Fresh w W → ∀ i, i < n → W.cell? ⟨b, off + i, none⟩ = some (.int k (zs.getD i 0)) := fun hp => by
  obtain ⟨b, off, e, _, hb, hcell⟩ := h.cells.2.2.2 hp
  exact ⟨b, off, e, fun W hF i hi => (hF.cell (p := ⟨b, off + i, none⟩) hb (fun e => e)).trans (hcell i hi)⟩
end Go.Proofs.YtakiimjldccgcabDoor

/-
  A drawn region whose operations read and whose calls make nothing but new memory: one walk, in the order of the text.
-/
namespace Go.Proofs.YtakiimjldccgcabDoor
open Go.RowKit

/-- A world in which nothing but new memory has been made since W. -/
structure Nw (W : World) where
  w : World
  f : Fresh W w
theorem nw_some (W : World) : Nonempty (Nw W) := ⟨⟨W, Kept.refl _ _⟩⟩
theorem wp_region_new {P : Program} {id : Nat} {Q : Exit → Act → World → Prop} {a : Act} {W : World} {l : List Oper} (hm : P.follows .mixedOrders = true) (hB : Region.lexB .any l.toArray = true)
    (h : wpQuiet P l.toArray (fun w' => ∃ d : Nw W, w' = d.w) (fun a' => ∀ w', (∃ d : Nw W, w' = d.w) → Q .normal a' w') l a) : (Code.region id l.toArray true).wp P Q a W :=
  wp_region_quiet (C := fun w' => ∃ d : Nw W, w' = d.w) hm hB ⟨⟨_, (Kept.refl (fun _ => False) W).drew⟩, rfl⟩ (by simpa using h)
theorem Calls.new_of {P : Program} {f : FuncId} {args : Array Value} {W : World} {d : Nw W} {v : Value} (h : Calls P f args d.w fun e w' => e = .returned v ∧ Fresh d.w w') : Calls P f args d.w fun e w'' => e = .returned v ∧ ∃ d' : Nw W, w'' = d'.w :=
  h.mono fun _ w' ⟨he, hf⟩ => ⟨he, ⟨w', d.f.trans hf (fun _ _ e => e)⟩, rfl⟩
end Go.Proofs.YtakiimjldccgcabDoor

/-
  Which shapes are right, their half and how many numbers a model of them has: the package's and the document's.
-/
namespace Go.Proofs.YtakiimjldccgcabDoor
open Go.RowKit Go.Lib Go.Maps

/-- A shape. -/
structure Shp where
  v : Int
  c : Int
  d : Int
  h : Int
  l : Int
  n : Int
/-- A shape as a value. -/
def Shp.val (s : Shp) : Value := .agg #[zV s.v, zV s.c, zV s.d, zV s.h, zV s.l, zV s.n]
def Shp.Ok (s : Shp) : Prop := I64 s.v ∧ I64 s.c ∧ I64 s.d ∧ I64 s.h ∧ I64 s.l ∧ I64 s.n
def wiB (x lo hi : Int) : Bool := decide (lo ≤ x) && decide (x ≤ hi)
theorem wiB_iff (x lo hi : Int) : wiB x lo hi = true ↔ lo ≤ x ∧ x ≤ hi := by simp [wiB]
theorem wiB_false {x lo hi : Int} (h : wiB x lo hi = false) : ¬ (lo ≤ x ∧ x ≤ hi) := fun e => by rw [(wiB_iff x lo hi).2 e] at h; cases h
def icB (d h : Int) : Bool := decide (1 ≤ h) && ((d % h == 0) && (d / h % 2 == 0))
/-- Is it right? -/
def shB (s : Shp) : Bool := wiB s.v 2 512 && (wiB s.c 1 512 && (wiB s.d 2 64 && (icB s.d s.h && (wiB s.l 1 8 && wiB s.n 1 256))))
def shE (s : Shp) : Int := if shB s = true then 0 else 160
def shH (s : Shp) : Int := if shB s = true then s.d / s.h / 2 else 0
def shN (s : Shp) : Int := if shB s = true then 2 * (s.v * s.d) + 2 * (s.c * (s.d / s.h / 2)) + s.l * (2 * s.d + 4 * (s.d * s.d) + 3 * (s.n * s.d)) + 256 + s.d else 0
theorem shE_ok {s : Shp} (h : shB s = true) : shE s = 0 := if_pos h
theorem shE_bad {s : Shp} (h : shB s = false) : shE s = 160 := if_neg (by rw [h]; decide)
theorem shE_cases (s : Shp) : shE s = 0 ∨ shE s = 160 := by unfold shE; split <;> simp
theorem shE_zero {s : Shp} (h : shE s = 0) : shB s = true := by
  unfold shE at h
  split at h
  · assumption
  · cases h
/-- What is right, as sizes. -/
theorem shB_iff (s : Shp) : shB s = true ↔ (2 ≤ s.v ∧ s.v ≤ 512) ∧ (1 ≤ s.c ∧ s.c ≤ 512) ∧ (2 ≤ s.d ∧ s.d ≤ 64) ∧ (1 ≤ s.h ∧ s.d % s.h = 0 ∧ s.d / s.h % 2 = 0) ∧ (1 ≤ s.l ∧ s.l ≤ 8) ∧ (1 ≤ s.n ∧ s.n ≤ 256) := by
  simp [shB, icB, wiB_iff]
/-- The sizes of a right shape, as numbers at hand. -/
theorem shB_sizes {s : Shp} (h : shB s = true) : ∃ V C D L N P : Nat, s.v = V ∧ s.c = C ∧ s.d = D ∧ s.l = L ∧ s.n = N ∧ s.d / s.h / 2 = P ∧ 2 ≤ V ∧ V ≤ 512 ∧ 1 ≤ C ∧ C ≤ 512 ∧ 2 ≤ D ∧ D ≤ 64 ∧ 1 ≤ L ∧ L ≤ 8 ∧ 1 ≤ N ∧ N ≤ 256 ∧ 1 ≤ P ∧ P ≤ 32 ∧ 1 ≤ s.h ∧ s.h ≤ 64 := by
  obtain ⟨⟨h1, h2⟩, ⟨h3, h4⟩, ⟨h5, h6⟩, ⟨h7, h8, h9⟩, ⟨h10, h11⟩, h12, h13⟩ := (shB_iff s).1 h
  obtain ⟨V, hV⟩ := Int.eq_ofNat_of_zero_le (show 0 ≤ s.v by omega)
  obtain ⟨C, hC⟩ := Int.eq_ofNat_of_zero_le (show 0 ≤ s.c by omega)
  obtain ⟨D, hD⟩ := Int.eq_ofNat_of_zero_le (show 0 ≤ s.d by omega)
  obtain ⟨L, hL⟩ := Int.eq_ofNat_of_zero_le (show 0 ≤ s.l by omega)
  obtain ⟨N, hN⟩ := Int.eq_ofNat_of_zero_le (show 0 ≤ s.n by omega)
  obtain ⟨H, hH⟩ := Int.eq_ofNat_of_zero_le (show 0 ≤ s.h by omega)
  have e1 : s.d / s.h = ((D / H : Nat) : Int) := by rw [hD, hH]; rfl
  have e2 : s.d / s.h / 2 = ((D / H / 2 : Nat) : Int) := by rw [e1]; rfl
  have e3 : D % H = 0 := by rw [hD, hH] at h8; exact Int.ofNat.inj h8
  have e4 : D / H % 2 = 0 := by rw [e1] at h9; exact Int.ofNat.inj h9
  have hH1 : 1 ≤ H := by omega
  have hdm := Nat.div_add_mod D H
  have hHD : H ≤ D := by
    rcases Nat.lt_or_ge D H with e | e
    · rw [Nat.mod_eq_of_lt e] at e3; omega
    · exact e
  have hq : 1 ≤ D / H := Nat.div_pos hHD hH1
  have hq2 : D / H ≤ D := Nat.div_le_self _ _
  exact ⟨V, C, D, L, N, D / H / 2, hV, hC, hD, hL, hN, e2, by omega, by omega, by omega, by omega, by omega, by omega, by omega, by omega, by omega, by omega, by omega, by omega, h7, by omega⟩

theorem within_any (x lo hi : Int) (w : World) : Calls Tryd.prog 24 #[zV x, zV lo, zV hi] w fun e w' => e = .returned (.bool (wiB x lo hi)) ∧ w' = w := by
  unfold wiB
  cases h1 : decide (lo ≤ x) with
  | false =>
    go_enter Tryd.func24, Tryd.ntmps24
    go_wp2
    go_ret
    exact ⟨rfl, rfl⟩
  | true =>
    cases h2 : decide (x ≤ hi) with
    | false =>
      go_enter Tryd.func24, Tryd.ntmps24
      go_wp2
      go_ret
      exact ⟨rfl, rfl⟩
    | true =>
      go_enter Tryd.func24, Tryd.ntmps24
      go_wp2
      go_ret
      exact ⟨rfl, rfl⟩
theorem rwithin_any (x lo hi : Int) (w : World) : Calls Tryd.prog 51 #[zV x, zV lo, zV hi] w fun e w' => e = .returned (.bool (wiB x lo hi)) ∧ w' = w := by
  unfold wiB
  cases h1 : decide (lo ≤ x) with
  | false =>
    go_enter Tryd.func51, Tryd.ntmps51
    go_wp2
    go_ret
    exact ⟨rfl, rfl⟩
  | true =>
    cases h2 : decide (x ≤ hi) with
    | false =>
      go_enter Tryd.func51, Tryd.ntmps51
      go_wp2
      go_ret
      exact ⟨rfl, rfl⟩
    | true =>
      go_enter Tryd.func51, Tryd.ntmps51
      go_wp2
      go_ret
      exact ⟨rfl, rfl⟩
theorem ic_quot {d h : Int} (hd : 2 ≤ d ∧ d ≤ 64) (hh : 1 ≤ h) : 0 ≤ d / h ∧ d / h ≤ 64 := by
  have h4 : 0 ≤ d / h := Int.ediv_nonneg (by omega) (by omega)
  have h5 : d / h ≤ d := Int.ediv_le_self _ (by omega)
  omega
theorem isCut_any (d h : Int) (w : World) (hd : 2 ≤ d ∧ d ≤ 64) : Calls Tryd.prog 28 #[zV d, zV h] w fun e w' => e = .returned (.bool (icB d h)) ∧ w' = w := by
  unfold icB
  cases h1 : decide (1 ≤ h) with
  | false =>
    go_enter Tryd.func28, Tryd.ntmps28
    go_wp2
    go_ret
    exact ⟨rfl, rfl⟩
  | true =>
    have hh : 1 ≤ h := of_decide_eq_true h1
    have hz2 : ¬ h = 0 := by omega
    obtain ⟨q1, q2⟩ := ic_quot hd hh
    obtain ⟨hd1, hd2⟩ := hd
    cases h2 : (d % h == 0) with
    | false =>
      go_enter Tryd.func28, Tryd.ntmps28
      go_wp2
      go_ret
      exact ⟨rfl, rfl⟩
    | true =>
      generalize hq : d / h = q at *
      cases h3 : (q % 2 == 0) with
      | false =>
        go_enter Tryd.func28, Tryd.ntmps28
        go_wp2
        go_ret
        exact ⟨rfl, rfl⟩
      | true =>
        go_enter Tryd.func28, Tryd.ntmps28
        go_wp2
        go_ret
        exact ⟨rfl, rfl⟩
end Go.Proofs.YtakiimjldccgcabDoor
