/-
  A pool in memory: what lies where, and what its calls that only read answer.
-/
import Derived.Test.YtokjgeeklimcnaaDoorRows
import Derived.Test.YtokjgeeklimcnaaDoorBase
import Derived.Test.YtokjgeeklimcnaaDoorPlN
import Derived.Deep.RegionLaw
import Derived.Deep.RegionHeld3
import Derived.BigQuiet
import Derived.Deep.QuietTactic
import Derived.Laws.OwnMore
import Derived.WalkSmall
namespace Go.Proofs.YtokjgeeklimcnaaDoor
open Go.RowKit

def uV (ws : List Nat) : List Value := ws.map fun (x : Nat) => .int .u64 (x : Int)
def iV (xs : List Int) : List Value := xs.map fun x => .int .i64 x

/-- A pool of numbers lies in block b: N places, the things xs in the row vt, the marks ws in the row vw, of which there are c, none ahead of word f. -/
structure PlM (w : World) (b N : Nat) (vt vw : Value) (xs : List Int) (ws : List Nat) (c f : Nat) : Prop where
  blk : w.heap[b]? = some (.cells #[.int .i64 (N : Int), vt, vw, .int .i64 (c : Int), .int .i64 (f : Int)] 82 (0, 0))
  th : w.ownsRow 0 3 1 vt xs.length (iV xs)
  wd : w.ownsRow 0 96 1 vw ws.length (uV ws)
/-- .. and the marks are right. -/
structure PlAt (w : World) (b N : Nat) (vt vw : Value) (xs : List Int) (ws : List Nat) (c f : Nat) : Prop extends PlM w b N vt vw xs ws c f where
  inv : Inv xs.length ws c f
  le : xs.length ≤ N
  lo : 1 ≤ N
  hi : N ≤ 65536
  wl : ws.length ≤ 1024

theorem Kept.drewN {S : Nat → Prop} {a w : World} (h : Kept S a w) (n : Nat) : Kept S a (w.drewN n) := ⟨h.os, h.tape, h.output, h.size, h.block⟩
/-- One block. -/
abbrev only (b : Nat) : Nat → Prop := fun k => k = b
/-- The blocks of a pool. -/
def foot (b : Nat) (vt vw : Value) : Nat → Prop := fun k => k = b ∨ vt.ownBlock = some k ∨ vw.ownBlock = some k

section
variable {w : World} {b N : Nat} {vt vw : Value} {xs : List Int} {ws : List Nat} {c f : Nat}

theorem PlM.cells (h : PlM w b N vt vw xs ws c f) : w.cell? ⟨b, 0, none⟩ = some (.int .i64 (N : Int)) ∧ w.cell? ⟨b, 1, none⟩ = some vt ∧ w.cell? ⟨b, 2, none⟩ = some vw ∧ w.cell? ⟨b, 3, none⟩ = some (.int .i64 (c : Int)) ∧ w.cell? ⟨b, 4, none⟩ = some (.int .i64 (f : Int)) := by
  simp [World.cell?, h.blk]
theorem PlM.frozen (h : PlM w b N vt vw xs ws c f) (i : Nat) : w.frozen? ⟨b, i, none⟩ = false := by
  simp [World.frozen?, h.blk]
theorem slice_shape {e : TypeId} {sz n : Nat} {v : Value} {l : List Value} {B : Nat} (h : w.ownsRow B e sz v n l) : ∃ ao cap, v = .slice ao n cap := by
  rcases h.2 with ⟨h1, h2⟩ | ⟨g, cap, cur, h1, _⟩
  · exact ⟨none, 0, by rw [h1, h2]⟩
  · exact ⟨_, cap, h1⟩
theorem PlM.kept {S : Nat → Prop} {w' : World} (h : PlM w b N vt vw xs ws c f) (hk : Kept S w w') (hS : ∀ k, foot b vt vw k → ¬ S k) : PlM w' b N vt vw xs ws c f :=
  ⟨hk.at h.blk (hS _ (.inl rfl)), owns_kept h.th hk (fun g hg => hS g (.inr (.inl hg))), owns_kept h.wd hk (fun g hg => hS g (.inr (.inr hg)))⟩
theorem PlAt.kept {S : Nat → Prop} {w' : World} (h : PlAt w b N vt vw xs ws c f) (hk : Kept S w w') (hS : ∀ k, foot b vt vw k → ¬ S k) : PlAt w' b N vt vw xs ws c f :=
  ⟨h.toPlM.kept hk hS, h.inv, h.le, h.lo, h.hi, h.wl⟩
theorem PlAt.drewN (h : PlAt w b N vt vw xs ws c f) (n : Nat) : PlAt (w.drewN n) b N vt vw xs ws c f := ⟨⟨h.blk, h.th, h.wd⟩, h.inv, h.le, h.lo, h.hi, h.wl⟩
/-- A word of the marks. -/
theorem PlM.word (h : PlM w b N vt vw xs ws c f) (j : Nat) (hj : j < ws.length) : ∃ g cap, vw = .slice (some ⟨g, 0, none⟩) ws.length cap ∧ w.cell? ⟨g, j, none⟩ = some (.int .u64 ((ws.getD j 0 : Nat) : Int)) := by
  have hw := h.wd
  rcases hw.2 with ⟨h1, h2⟩ | ⟨g, cap, cur, h1, _⟩
  · omega
  · subst h1
    refine ⟨g, cap, rfl, ?_⟩
    rw [hw.cellAt j (by omega)]
    simp [uV, hj]
/-- A thing. -/
theorem PlM.thing (h : PlM w b N vt vw xs ws c f) (j : Nat) (hj : j < xs.length) : ∃ g cap, vt = .slice (some ⟨g, 0, none⟩) xs.length cap ∧ w.cell? ⟨g, j, none⟩ = some (.int .i64 (xs.getD j 0)) := by
  have hw := h.th
  rcases hw.2 with ⟨h1, h2⟩ | ⟨g, cap, cur, h1, _⟩
  · omega
  · subst h1
    refine ⟨g, cap, rfl, ?_⟩
    rw [hw.cellAt j (by omega)]
    simp [iV, hj]
end

theorem bit_one (x k : Nat) (hx : x < 18446744073709551616) : (bits .and .u64 ((x : Int) / 2 ^ k) 1 == 1) = x.testBit k := by
  have e0 : (x : Int) / 2 ^ k = ((x / 2 ^ k : Nat) : Int) := by simp
  rw [e0]
  have h1 : x / 2 ^ k < 18446744073709551616 := Nat.lt_of_le_of_lt (Nat.div_le_self _ _) hx
  have := bits_and_u64_nat (x / 2 ^ k) 1 h1 (by omega)
  rw [show ((1 : Nat) : Int) = 1 from rfl] at this
  rw [this, Nat.testBit_eq_decide_div_mod_eq, Nat.and_one_is_mod]
  rw [Bool.eq_iff_iff, beq_iff_eq, decide_eq_true_iff]
  omega

set_option maxHeartbeats 400000 in
theorem has_any (b N : Nat) (vt vw : Value) (xs : List Int) (ws : List Nat) (c f p : Nat) (w : World) (h : PlAt w b N vt vw xs ws c f) (hp : p ≤ 65536) :
    Calls Tryd.prog 45 #[.pointer (some ⟨b, 2, none⟩), .int .i64 (p : Int)] w fun e w' => e = .returned (.bool (bt ws p)) ∧ w' = w := by
  obtain ⟨c0, c1, c2, c3, c4⟩ := h.cells
  by_cases hj : p / 64 < ws.length
  · obtain ⟨g, cap, rfl, hc⟩ := h.word (p / 64) hj
    have hx := getD_lt h.inv.lt (p / 64)
    have hb : bt ws p = (ws.getD (p / 64) 0).testBit (p % 64) := rfl
    have hone := bit_one (ws.getD (p / 64) 0) (p % 64) hx
    rw [← hb] at hone
    clear hb
    have HB := show Hid _ from hone
    clear hone
    generalize ws.getD (p / 64) 0 = x at *
    generalize bt ws p = r at *
    go_enter Tryd.func45, Tryd.ntmps45
    go_wp2
    go_ret
    exact ⟨ret_bool HB.out, rfl⟩
  · obtain ⟨ao, cap, rfl⟩ := slice_shape h.wd
    have hb : bt ws p = false := by
      unfold bt
      rw [List.getD_eq_getElem?_getD, List.getElem?_eq_none (by omega)]
      simp
    rw [hb]
    go_enter Tryd.func45, Tryd.ntmps45
    go_wp2
    go_ret
    exact ⟨rfl, rfl⟩

/-- A pool, told as a list: its blocks are F. -/
def PoolAt (w : World) (F : Nat → Prop) (b : Nat) (l : List (Option Int)) : Prop :=
  ∃ vt vw xs ws c f, PlAt w b l.length vt vw xs ws c f ∧ pl l.length xs ws = l ∧ F = foot b vt vw ∧ ∀ k, F k → k ≠ 0

theorem PoolAt.kept {S : Nat → Prop} {w w' : World} {F : Nat → Prop} {b : Nat} {l : List (Option Int)} (h : PoolAt w F b l) (hk : Kept S w w') (hS : ∀ k, F k → ¬ S k) : PoolAt w' F b l := by
  obtain ⟨vt, vw, xs, ws, c, f, h1, h2, rfl, h3⟩ := h
  exact ⟨vt, vw, xs, ws, c, f, h1.kept hk hS, h2, rfl, h3⟩
theorem PoolAt.pos {w : World} {F : Nat → Prop} {b : Nat} {l : List (Option Int)} (h : PoolAt w F b l) {k : Nat} (hk : F k) : k ≠ 0 := by
  obtain ⟨vt, vw, xs, ws, c, f, h1, h2, h3, h4⟩ := h
  exact h4 k hk
theorem PoolAt.drewN {w : World} {F : Nat → Prop} {b : Nat} {l : List (Option Int)} (h : PoolAt w F b l) (n : Nat) : PoolAt (w.drewN n) F b l := let ⟨vt, vw, xs, ws, c, f, h1, h2⟩ := h; ⟨vt, vw, xs, ws, c, f, h1.drewN n, h2⟩
theorem PoolAt.len {w : World} {F : Nat → Prop} {b : Nat} {l : List (Option Int)} (h : PoolAt w F b l) : 1 ≤ l.length ∧ l.length ≤ 65536 := by
  obtain ⟨vt, vw, xs, ws, c, f, h1, h2, rfl, _⟩ := h
  exact ⟨h1.lo, h1.hi⟩
/-- Each block of a pool lies in the heap, and is of one of three types. -/
theorem PoolAt.type {w : World} {F : Nat → Prop} {b : Nat} {l : List (Option Int)} (h : PoolAt w F b l) {k : Nat} (hk : F k) : ∃ cs t fz, w.heap[k]? = some (.cells cs t fz) ∧ (t = 82 ∨ t = 3 ∨ t = 96) := by
  obtain ⟨vt, vw, xs, ws, c, f, h1, h2, rfl, _⟩ := h
  rcases hk with rfl | e | e
  · exact ⟨_, _, _, h1.blk, .inl rfl⟩
  · rcases h1.th.2 with ⟨r, _⟩ | ⟨g, cap, cur, r, _, hh, _⟩
    · rw [r] at e; simp [Value.ownBlock] at e
    · rw [r] at e; simp only [Value.ownBlock, Option.some.injEq] at e; subst e
      exact ⟨_, _, _, hh, .inr (.inl rfl)⟩
  · rcases h1.wd.2 with ⟨r, _⟩ | ⟨g, cap, cur, r, _, hh, _⟩
    · rw [r] at e; simp [Value.ownBlock] at e
    · rw [r] at e; simp only [Value.ownBlock, Option.some.injEq] at e; subst e
      exact ⟨_, _, _, hh, .inr (.inr rfl)⟩
theorem PoolAt.lt {w : World} {F : Nat → Prop} {b : Nat} {l : List (Option Int)} (h : PoolAt w F b l) {k : Nat} (hk : F k) : k < w.heap.size := by
  obtain ⟨cs, t, fz, e, _⟩ := h.type hk
  exact lt_of_heap e

set_option maxHeartbeats 400000 in
theorem used_any (F : Nat → Prop) (b : Nat) (l : List (Option Int)) (w : World) (h : PoolAt w F b l) :
    Calls Tryd.prog 13 #[.pointer (some ⟨b, 0, none⟩)] w fun e w' => e = .returned (.int .i64 (used l : Int)) ∧ ∃ n, w' = w.drewN n := by
  obtain ⟨vt, vw, xs, ws, c, f, h1, h2, rfl, _⟩ := h
  obtain ⟨c0, c1, c2, c3, c4⟩ := h1.cells
  have hu : used l + c = xs.length := by rw [← h2]; exact used_pl h1.inv rfl h1.le
  have hl := h1.le
  have hh := h1.hi
  obtain ⟨ao, cap, rfl⟩ := slice_shape h1.th
  generalize used l = u at *
  go_enter Tryd.func13, Tryd.ntmps13
  go_wp2_with fail
  go_quiet (fail)
  go_wp2
  go_ret
  exact ⟨ret_int (by omega), nq, rfl⟩

set_option maxHeartbeats 400000 in
theorem free_any (F : Nat → Prop) (b : Nat) (l : List (Option Int)) (w : World) (h : PoolAt w F b l) :
    Calls Tryd.prog 14 #[.pointer (some ⟨b, 0, none⟩)] w fun e w' => e = .returned (.int .i64 ((l.length - used l : Nat) : Int)) ∧ ∃ n, w' = w.drewN n := by
  have HU := show Hid _ from (fun m => used_any F b l (w.drewN m) (h.drewN m))
  have hu := used_le l
  obtain ⟨vt, vw, xs, ws, c, f, h1, h2, rfl, _⟩ := h
  obtain ⟨c0, c1, c2, c3, c4⟩ := h1.cells
  have hh := h1.hi
  clear h2 h1
  generalize used l = u at *
  go_enter Tryd.func14, Tryd.ntmps14
  go_wp2_with fail
  go_quiet ((go_at_call 13; exact Calls.quiet_of (HU.out _)))
  go_wp2
  go_ret
  exact ⟨ret_int (by omega), nq, rfl⟩

set_option maxHeartbeats 400000 in
theorem taken_any (F : Nat → Prop) (b : Nat) (l : List (Option Int)) (p : Int) (w : World) (h : PoolAt w F b l) :
    Calls Tryd.prog 35 #[.pointer (some ⟨b, 0, none⟩), .int .i64 p] w fun e w' => e = .returned (.bool (gt l p).isSome) ∧ w' = w := by
  obtain ⟨vt, vw, xs, ws, c, f, h1, h2, rfl, _⟩ := h
  obtain ⟨c0, c1, c2, c3, c4⟩ := h1.cells
  have hl := h1.le
  have hh := h1.hi
  have hg : (gt l p).isSome = (decide (0 ≤ p) && decide (p < (xs.length : Int)) && !bt ws p.toNat) := by
    rw [← h2, gt_pl h1.le p]
    by_cases e1 : 0 ≤ p <;> by_cases e2 : p < (xs.length : Int) <;> cases e3 : bt ws p.toNat <;> simp [e1, e2]
  rw [hg]
  by_cases e1 : 0 ≤ p
  · obtain ⟨k, rfl⟩ := Int.eq_ofNat_of_zero_le e1
    by_cases e2 : k < xs.length
    · have ha := fun (_ : Unit) => has_any b _ vt vw xs ws c f k w h1 (by omega)
      have HA := show Hid _ from ha
      clear ha
      have er : (decide (0 ≤ (k : Int)) && decide ((k : Int) < (xs.length : Int)) && !bt ws (k : Int).toNat) = !bt ws k := by
        have : (k : Int) < (xs.length : Int) := by omega
        simp [e2]
      rw [er]
      generalize bt ws k = r at *
      obtain ⟨ao, cap, rfl⟩ := slice_shape h1.th
      clear h1 hg h2 er
      go_enter Tryd.func35, Tryd.ntmps35
      go_wp2_with fail
      refine (HA.out ()).mono ?_
      rintro e w' ⟨rfl, rfl⟩
      go_wp2
      go_ret
      exact ⟨rfl, rfl⟩
    · have er : (decide (0 ≤ (k : Int)) && decide ((k : Int) < (xs.length : Int)) && !bt ws (k : Int).toNat) = false := by
        have : ¬ (k : Int) < (xs.length : Int) := by omega
        simp [this]
      rw [er]
      obtain ⟨ao, cap, rfl⟩ := slice_shape h1.th
      clear h1 hg h2 er
      go_enter Tryd.func35, Tryd.ntmps35
      go_wp2
      go_ret
      exact ⟨rfl, rfl⟩
  · have er : (decide (0 ≤ p) && decide (p < (xs.length : Int)) && !bt ws p.toNat) = false := by simp [e1]
    rw [er]
    clear h1 hg h2 er
    go_enter Tryd.func35, Tryd.ntmps35
    go_wp2
    go_ret
    exact ⟨rfl, rfl⟩

/-- What a taken place has, in memory. -/
theorem PoolAt.has {w : World} {F : Nat → Prop} {b : Nat} {l : List (Option Int)} (h : PoolAt w F b l) {p : Int} {v : Int} (hg : gt l p = some v) :
    ∃ (k g n cap : Nat), p = (k : Int) ∧ k < n ∧ w.cell? ⟨b, 1, none⟩ = some (.slice (some ⟨g, 0, none⟩) n cap) ∧ w.cell? ⟨g, k, none⟩ = some (.int .i64 v) := by
  obtain ⟨vt, vw, xs, ws, c, f, h1, h2, rfl, _⟩ := h
  rw [← h2, gt_pl h1.le p] at hg
  split at hg
  · rename_i e
    obtain ⟨e1, e2, e3⟩ := e
    obtain ⟨k, rfl⟩ := Int.eq_ofNat_of_zero_le e1
    have hk : k < xs.length := by omega
    obtain ⟨g, cap, rfl, hc⟩ := h1.thing k hk
    simp only [Int.toNat_natCast, Option.some.injEq] at hg
    rw [hg] at hc
    exact ⟨k, g, xs.length, cap, rfl, hk, h1.cells.2.1, hc⟩
  · cases hg

set_option maxHeartbeats 400000 in
theorem get_any (F : Nat → Prop) (b : Nat) (l : List (Option Int)) (p : Int) (w : World) (h : PoolAt w F b l) :
    Calls Tryd.prog 28 #[.pointer (some ⟨b, 0, none⟩), .int .i64 p] w fun e w' => e = .returned (.tuple #[.int .i64 ((gt l p).getD 0), .bool (gt l p).isSome]) ∧ w' = w := by
  have ht := fun (_ : Unit) => taken_any F b l p w h
  have HT := show Hid _ from ht
  clear ht
  cases hg : gt l p with
  | none =>
    rw [hg] at HT
    go_enter Tryd.func28, Tryd.ntmps28
    go_wp2_with fail
    refine (HT.out ()).mono ?_
    rintro e w' ⟨rfl, rfl⟩
    simp only [Option.isSome_none]
    go_wp2
    go_ret2
    exact ⟨rfl, rfl⟩
  | some v =>
    obtain ⟨k, g, n, cap, rfl, hk, c1, c2⟩ := h.has hg
    rw [hg] at HT
    clear hg
    go_enter Tryd.func28, Tryd.ntmps28
    go_wp2_with fail
    refine (HT.out ()).mono ?_
    rintro e w' ⟨rfl, rfl⟩
    simp only [Option.isSome_some]
    go_wp2
    go_ret2
    exact ⟨rfl, rfl⟩

/-- A new pool. -/
theorem pool_new (w : World) (h0 : 0 < w.heap.size) (N : Nat) (hN : 1 ≤ N) (hN2 : N ≤ 65536) :
    PoolAt (w.alloc (.cells #[.int .i64 (N : Int), .slice none 0 0, .slice none 0 0, .int .i64 0, .int .i64 0] 82)) (only w.heap.size) w.heap.size (List.replicate N none) := by
  refine ⟨.slice none 0 0, .slice none 0 0, [], [], 0, 0, ⟨⟨?_, World.ownsRow_nil _ _ _ _, World.ownsRow_nil _ _ _ _⟩, Inv.nothing, Nat.zero_le _, by simpa using hN, by simpa using hN2, by simp⟩, by rw [List.length_replicate, pl_none], ?_, fun k (hk : k = w.heap.size) => by omega⟩
  · rw [List.length_replicate]; exact heap_alloc_new w _
  · funext k
    simp [foot, Value.ownBlock, only]

set_option maxHeartbeats 400000 in
theorem new_bad (N : Int) (w : World) (h : ¬ (1 ≤ N ∧ N ≤ 65536)) :
    Calls Tryd.prog 29 #[.int .i64 N] w fun e w' => e = .returned (.tuple #[.pointer none, .int .i64 1]) ∧ w' = w := by
  by_cases h1 : N < 1
  · clear h
    go_enter Tryd.func29, Tryd.ntmps29
    go_wp2
    go_ret2
    exact ⟨rfl, rfl⟩
  · have h2 : 65536 < N := by omega
    clear h
    go_enter Tryd.func29, Tryd.ntmps29
    go_wp2
    go_ret2
    exact ⟨rfl, rfl⟩
set_option maxHeartbeats 400000 in
theorem new_any (N : Nat) (w : World) (h0 : 0 < w.heap.size) (h1 : 1 ≤ N) (h2 : N ≤ 65536) :
    Calls Tryd.prog 29 #[.int .i64 (N : Int)] w fun e w' => e = .returned (.tuple #[.pointer (some ⟨w.heap.size, 0, none⟩), .int .i64 0]) ∧ PoolAt w' (only w.heap.size) w.heap.size (List.replicate N none) ∧ Fresh w w' := by
  have HP := show Hid _ from pool_new w h0 N h1 h2
  go_enter Tryd.func29, Tryd.ntmps29
  go_wp2
  go_ret2
  exact ⟨rfl, HP.out, (Kept.refl _ _).alloc _⟩

end Go.Proofs.YtokjgeeklimcnaaDoor
