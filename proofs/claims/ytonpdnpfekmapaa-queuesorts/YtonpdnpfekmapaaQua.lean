/-
  A queue's elements in memory: how two of them stand, and where one belongs.
-/
import Derived.Test.YtonpdnpfekmapaaRows
import Derived.Test.YtonpdnpfekmapaaBase
import Derived.Test.YtonpdnpfekmapaaQuN
import Derived.Deep.RegionLaw
import Derived.Deep.RegionHeld3
import Derived.BigQuiet
import Derived.Deep.QuietTactic
import Derived.Laws.OwnMore
import Derived.WalkSmall
namespace Go.Proofs.Ytonpdnpfekmapaa
open Go.RowKit

/-- A key, a value, a count, as values. -/
abbrev kV (k : KT) : Value := .int .i64 k
abbrev nV (n : Nat) : Value := .int .i64 (n : Int)
/-- An element lies in its block. -/
def ElAt (w : World) (x : El) : Prop := w.heap[x.b]? = some (.cells #[kV x.k, .string x.v, nV x.t, nV x.a] 132 (0, 0))
abbrev pV (x : El) : Value := .pointer (some ⟨x.b, 0, none⟩)
theorem ElAt.cells {w : World} {x : El} (h : ElAt w x) : w.cell? ⟨x.b, 0, none⟩ = some (kV x.k) ∧ w.cell? ⟨x.b, 1, none⟩ = some (.string x.v) ∧ w.cell? ⟨x.b, 2, none⟩ = some (nV x.t) ∧ w.cell? ⟨x.b, 3, none⟩ = some (nV x.a) := by
  simp [World.cell?, show w.heap[x.b]? = _ from h]
theorem ElAt.kept {S : Nat → Prop} {w w' : World} {x : El} (h : ElAt w x) (hk : Kept S w w') (hS : ¬ S x.b) : ElAt w' x := hk.at h hS
theorem ElAt.drewN {w : World} {x : El} (h : ElAt w x) (n : Nat) : ElAt (w.drewN n) x := h
theorem Kept.drewN {S : Nat → Prop} {a w : World} (h : Kept S a w) (n : Nat) : Kept S a (w.drewN n) := ⟨h.os, h.tape, h.output, h.size, h.block⟩

theorem nanK_any (a : KT) (w : World) : Calls Try.prog 135 #[kV a] w fun e w' => e = .returned (.bool false) ∧ w' = w := by
  go_enter Try.func135, Try.ntmps135
  go_wp2
  go_ret
  exact ⟨rfl, rfl⟩
theorem nanI_any (a : Int) (w : World) : Calls Try.prog 146 #[.int .i64 a] w fun e w' => e = .returned (.bool false) ∧ w' = w := by
  go_enter Try.func146, Try.ntmps146
  go_wp2
  go_ret
  exact ⟨rfl, rfl⟩
theorem cmpK_any (a b : Int) (w : World) : Calls Try.prog 110 #[kV a, kV b] w fun e w' => e = .returned (.int .i64 (kc a b)) ∧ w' = w := by
  have h1 := nanK_any a w
  have h2 := nanK_any b w
  rcases Int.lt_trichotomy a b with h | h | h
  · rw [show kc a b = -1 from if_pos h]
    go_enter Try.func110, Try.ntmps110
    go_wp2_with fail
    refine h1.mono ?_
    rintro e w1 ⟨rfl, rfl⟩
    go_wp2_with fail
    refine h2.mono ?_
    rintro e w1 ⟨rfl, rfl⟩
    clear h1 h2
    go_wp2
    go_ret
    exact ⟨rfl, rfl⟩
  · subst h
    rw [kc_self]
    go_enter Try.func110, Try.ntmps110
    go_wp2_with fail
    refine h1.mono ?_
    rintro e w1 ⟨rfl, rfl⟩
    go_wp2_with fail
    refine h2.mono ?_
    rintro e w1 ⟨rfl, rfl⟩
    clear h1 h2
    go_wp2
    go_ret
    exact ⟨rfl, rfl⟩
  · have h'' : ¬ a < b := by omega
    rw [show kc a b = 1 by unfold kc; rw [if_neg h'', if_pos h]]
    go_enter Try.func110, Try.ntmps110
    go_wp2_with fail
    refine h1.mono ?_
    rintro e w1 ⟨rfl, rfl⟩
    go_wp2_with fail
    refine h2.mono ?_
    rintro e w1 ⟨rfl, rfl⟩
    clear h1 h2
    go_wp2
    go_ret
    exact ⟨rfl, rfl⟩
theorem cmpI_any (a b : Nat) (w : World) : Calls Try.prog 122 #[nV a, nV b] w fun e w' => e = .returned (.int .i64 (nc a b)) ∧ w' = w := by
  have h1 := nanI_any (a : Int) w
  have h2 := nanI_any (b : Int) w
  rcases Nat.lt_trichotomy a b with h | h | h
  · have h' : (a : Int) < (b : Int) := by omega
    rw [show nc a b = -1 from if_pos h]
    go_enter Try.func122, Try.ntmps122
    go_wp2_with fail
    refine h1.mono ?_
    rintro e w1 ⟨rfl, rfl⟩
    go_wp2_with fail
    refine h2.mono ?_
    rintro e w1 ⟨rfl, rfl⟩
    clear h1 h2
    go_wp2
    go_ret
    exact ⟨rfl, rfl⟩
  · subst h
    rw [nc_self]
    go_enter Try.func122, Try.ntmps122
    go_wp2_with fail
    refine h1.mono ?_
    rintro e w1 ⟨rfl, rfl⟩
    go_wp2_with fail
    refine h2.mono ?_
    rintro e w1 ⟨rfl, rfl⟩
    clear h1 h2
    go_wp2
    go_ret
    exact ⟨rfl, rfl⟩
  · have h' : (b : Int) < (a : Int) := by omega
    have h'' : ¬ (a : Int) < (b : Int) := by omega
    rw [show nc a b = 1 by unfold nc; rw [if_neg (by omega), if_pos h]]
    go_enter Try.func122, Try.ntmps122
    go_wp2_with fail
    refine h1.mono ?_
    rintro e w1 ⟨rfl, rfl⟩
    go_wp2_with fail
    refine h2.mono ?_
    rintro e w1 ⟨rfl, rfl⟩
    clear h1 h2
    go_wp2
    go_ret
    exact ⟨rfl, rfl⟩

set_option maxHeartbeats 400000 in
theorem order_any (x y : El) (w : World) (hx : ElAt w x) (hy : ElAt w y) :
    Calls Try.prog 107 #[pV x, pV y] w fun e w' => e = .returned (.int .i64 (ord x y)) ∧ ∃ n, w' = w.drewN n := by
  obtain ⟨x0, _, _, x3⟩ := hx.cells
  obtain ⟨y0, _, _, y3⟩ := hy.cells
  have x0' : ∀ n, (w.drewN n).cell? ⟨x.b, 0, none⟩ = some (kV x.k) := fun _ => x0
  have y0' : ∀ n, (w.drewN n).cell? ⟨y.b, 0, none⟩ = some (kV y.k) := fun _ => y0
  have x3' : ∀ n, (w.drewN n).cell? ⟨x.b, 3, none⟩ = some (nV x.a) := fun _ => x3
  have y3' : ∀ n, (w.drewN n).cell? ⟨y.b, 3, none⟩ = some (nV y.a) := fun _ => y3
  have HK := show Hid _ from (fun W => cmpK_any x.k y.k W)
  have HI := show Hid _ from (fun W => cmpI_any x.a y.a W)
  clear hx hy x0 y0 x3 y3
  obtain ⟨c, hc⟩ : ∃ c, c = kc x.k y.k := ⟨_, rfl⟩
  obtain ⟨d, hd⟩ : ∃ d, d = nc x.a y.a := ⟨_, rfl⟩
  have ho : ord x y = if c ≠ 0 then c else d := by rw [hc, hd]; rfl
  rw [ho]
  rw [← hc] at HK
  rw [← hd] at HI
  clear ho hc hd
  by_cases h0 : c = 0
  · subst h0
    rw [if_neg (by simp)]
    go_enter Try.func107, Try.ntmps107
    go_wp2_with fail
    go_quiet ((go_at_call 110; exact Calls.quiet_of_same (HK.out _)))
    have x4 := fun n => x3' (nq + n)
    have y4 := fun n => y3' (nq + n)
    simp only [← World.drewN_drewN] at x4 y4
    have HW : Hid (∀ n, (w.drewN nq).drewN n = w.drewN (nq + n)) := fun n => by rw [World.drewN_drewN]
    clear x0' y0' x3' y3' HK
    generalize w.drewN nq = w1 at *
    go_wp2_with fail
    go_quiet ((go_at_call 122; exact Calls.quiet_of_same (HI.out _)))
    go_wp2
    go_ret
    exact ⟨rfl, _, HW.out _⟩
  · rw [if_pos h0]
    go_enter Try.func107, Try.ntmps107
    go_wp2_with fail
    go_quiet ((go_at_call 110; exact Calls.quiet_of_same (HK.out _)))
    go_wp2_with fail
    go_ret
    exact ⟨rfl, _, rfl⟩
end Go.Proofs.Ytonpdnpfekmapaa
