/-
  Exp2, the package's (for seats with rows of Vca).
-/
import Derived.Test.YtbppahmcjifflaaDoorFwf
namespace Go.Proofs.YtbppahmcjifflaaDoor
open Go.RowKit

/-- The array of the three constants. -/
def Bend (w : World) : Prop :=
  w.cell? ⟨0, 0, none⟩ = some (.int .i64 84941200) ∧ w.cell? ⟨0, 1, none⟩ = some (.int .i64 241400000) ∧ w.cell? ⟨0, 2, none⟩ = some (.int .i64 747400624)
theorem Bend.drew {w w' : World} (h : Bend w) (k : Drew w w') : Bend w' := by obtain ⟨n, rfl⟩ := k; exact h

def polyA (t : Int) : Int := 241400000 + 84941200 * t / 65536
def polyB (t : Int) : Int := 747400624 + polyA t * t / 65536
def polyC (t : Int) : Int := 1073741824 + polyB t * t / 65536
/-- What the document reckons. -/
def exp2 (x : Int) : Int := if 31 ≤ -(min x 0 / 65536) then 0 else polyC (min x 0 % 65536) / 2 ^ (-(min x 0 / 65536)).toNat

theorem mul_bound {a t A T : Int} (h0 : 0 ≤ a) (h1 : a ≤ A) (t0 : 0 ≤ t) (t1 : t ≤ T) : 0 ≤ a * t ∧ a * t ≤ A * T :=
  ⟨Int.mul_nonneg h0 t0, Int.mul_le_mul h1 t1 t0 (by omega)⟩

theorem polyA_bound {t : Int} (t0 : 0 ≤ t) (t1 : t ≤ 65535) : 0 ≤ polyA t ∧ polyA t ≤ 326341200 := by unfold polyA; omega
theorem polyB_bound {t : Int} (t0 : 0 ≤ t) (t1 : t ≤ 65535) : 0 ≤ polyB t ∧ polyB t ≤ 1073741824 := by
  obtain ⟨a0, a1⟩ := polyA_bound t0 t1
  obtain ⟨m0, m1⟩ := mul_bound a0 a1 t0 t1
  unfold polyB; omega
theorem polyC_bound {t : Int} (t0 : 0 ≤ t) (t1 : t ≤ 65535) : 1073741824 ≤ polyC t ∧ polyC t ≤ 2147483647 := by
  obtain ⟨a0, a1⟩ := polyB_bound t0 t1
  obtain ⟨m0, m1⟩ := mul_bound a0 a1 t0 t1
  unfold polyC; omega

def bendC (t : Int) : Nat → Int
  | 0 => 0
  | 1 => 84941200
  | 2 => polyA t
  | _ => polyB t

set_option maxHeartbeats 400000 in
theorem exp2_far (x : Int) (w : World) (hx : I64 x) (hn : x ≤ 0) (hf : 31 ≤ -(x / 65536)) :
    Calls Tryd.prog 59 #[.int .i64 x] w fun e w' => e = .returned (.int .i64 0) ∧ Drew w w' := by
  obtain ⟨x0, x1⟩ := hx
  have hm := and_16 x
  go_enter Tryd.func59, Tryd.ntmps59
  go_wp2
  go_ret
  exact ⟨rfl, Drew.refl _⟩
set_option maxHeartbeats 800000 in
theorem exp2_near (x : Int) (n : Nat) (t : Int) (w : World) (hB : Bend w) (hx : I64 x) (hn : x ≤ 0) (hq : x / 65536 = -(n : Int)) (hn' : n < 31) (ht : x % 65536 = t) :
    Calls Tryd.prog 59 #[.int .i64 x] w fun e w' => e = .returned (.int .i64 (polyC t / 2 ^ n)) ∧ Drew w w' := by
  obtain ⟨x0, x1⟩ := hx
  obtain ⟨hB0, hB1, hB2⟩ := hB
  have t0 : 0 ≤ t := by omega
  have t1 : t ≤ 65535 := by omega
  have hm := and_16 x
  rw [ht] at hm
  clear ht
  go_enter Tryd.func59, Tryd.ntmps59
  go_wp2
  go_loop [5, 16] (fun c i => ∃ k : Nat, k ≤ 3 ∧ i = .int .i64 k ∧ c = .int .i64 (bendC t k)) (fun _ i => 3 - (intOf i).toNat)
  case atStart => exact ⟨0, by omega, rfl, rfl⟩
  case round =>
    obtain ⟨k, hk, rfl, rfl⟩ := hrel
    match k, hk with
    | 0, _ =>
      rw [show bendC t 0 = 0 from rfl, show ((0 : Nat) : Int) = 0 from rfl]
      go_wp2
      go_round
      case rel => exact ⟨1, by omega, rfl, rfl⟩
      case measure => simp [intOf]
    | 1, _ =>
      rw [show bendC t 1 = 84941200 from rfl, show ((1 : Nat) : Int) = 1 from rfl]
      go_wp2
      go_round
      case rel => exact ⟨2, by omega, rfl, rfl⟩
      case measure => simp [intOf]
    | 2, _ =>
      rw [show bendC t 2 = polyA t from rfl, show ((2 : Nat) : Int) = 2 from rfl]
      obtain ⟨a0, a1⟩ := polyA_bound t0 t1
      obtain ⟨m0, m1⟩ := mul_bound a0 a1 t0 t1
      have HB : Hid (bendC t 3 = 747400624 + polyA t * t / 65536) := rfl
      generalize polyA t = A at *
      go_wp2
      go_round
      case rel => exact ⟨3, by omega, rfl, by rw [HB.out]⟩
      case measure => simp [intOf]
    | 3, _ =>
      rw [show bendC t 3 = polyB t from rfl, show ((3 : Nat) : Int) = 3 from rfl]
      obtain ⟨a0, a1⟩ := polyB_bound t0 t1
      obtain ⟨m0, m1⟩ := mul_bound a0 a1 t0 t1
      have HB : Hid (polyC t = 1073741824 + polyB t * t / 65536) := rfl
      generalize polyB t = B at *
      go_wp2
      go_ret
      exact ⟨ret_int (by rw [HB.out]), Drew.refl _⟩

set_option maxHeartbeats 800000 in
theorem exp2_over (x : Int) (w : World) (hB : Bend w) (hx : I64 x) (hn : 0 < x) :
    Calls Tryd.prog 59 #[.int .i64 x] w fun e w' => e = .returned (.int .i64 1073741824) ∧ Drew w w' := by
  obtain ⟨x0, x1⟩ := hx
  obtain ⟨hB0, hB1, hB2⟩ := hB
  have hm := and_16 0
  obtain ⟨t, ht⟩ : ∃ t : Int, t = 0 := ⟨0, rfl⟩
  have t0 : 0 ≤ t := by omega
  have t1 : t ≤ 65535 := by omega
  go_enter Tryd.func59, Tryd.ntmps59
  go_wp2
  subst ht
  go_loop [5, 16] (fun c i => ∃ k : Nat, k ≤ 3 ∧ i = .int .i64 k ∧ c = .int .i64 (bendC 0 k)) (fun _ i => 3 - (intOf i).toNat)
  case atStart => exact ⟨0, by omega, rfl, rfl⟩
  case round =>
    obtain ⟨k, hk, rfl, rfl⟩ := hrel
    match k, hk with
    | 0, _ =>
      rw [show bendC 0 0 = 0 from rfl, show ((0 : Nat) : Int) = 0 from rfl]
      go_wp2
      go_round
      case rel => exact ⟨1, by omega, rfl, rfl⟩
      case measure => simp [intOf]
    | 1, _ =>
      rw [show bendC 0 1 = 84941200 from rfl, show ((1 : Nat) : Int) = 1 from rfl]
      go_wp2
      go_round
      case rel => exact ⟨2, by omega, rfl, rfl⟩
      case measure => simp [intOf]
    | 2, _ =>
      rw [show bendC 0 2 = polyA 0 from rfl, show ((2 : Nat) : Int) = 2 from rfl]
      obtain ⟨a0, a1⟩ := polyA_bound t0 t1
      obtain ⟨m0, m1⟩ := mul_bound a0 a1 t0 t1
      have HB : Hid (bendC 0 3 = 747400624 + polyA 0 * 0 / 65536) := rfl
      generalize polyA 0 = A at *
      go_wp2
      go_round
      case rel => exact ⟨3, by omega, rfl, by rw [HB.out]; simp⟩
      case measure => simp [intOf]
    | 3, _ =>
      rw [show bendC 0 3 = polyB 0 from rfl, show ((3 : Nat) : Int) = 3 from rfl]
      obtain ⟨a0, a1⟩ := polyB_bound t0 t1
      obtain ⟨m0, m1⟩ := mul_bound a0 a1 t0 t1
      have HB : Hid (polyC 0 = 1073741824 + polyB 0 * 0 / 65536) := rfl
      generalize polyB 0 = B at *
      go_wp2
      go_ret
      exact ⟨rfl, Drew.refl _⟩

/-- Every Exp2. -/
theorem exp2_any (x : Int) (w : World) (hB : Bend w) (hx : I64 x) :
    Calls Tryd.prog 59 #[.int .i64 x] w fun e w' => e = .returned (.int .i64 (exp2 x)) ∧ Drew w w' := by
  unfold exp2
  rcases Int.lt_or_le 0 x with h | h
  · rw [show min x 0 = 0 by omega]
    exact exp2_over x w hB hx h
  · rw [show min x 0 = x by omega]
    by_cases hf : 31 ≤ -(x / 65536)
    · rw [if_pos hf]
      exact exp2_far x w hx h hf
    · rw [if_neg hf]
      have hq : x / 65536 = -(((-(x / 65536)).toNat : Nat) : Int) := by omega
      exact exp2_near x _ _ w hB hx h hq (by omega) rfl

theorem Bend.kept {S : Nat → Prop} {w w' : World} (h : Bend w) (hk : Kept S w w') (hn : ¬ S 0) : Bend w' := by
  have h0 := World.block_lt_of_cell? w _ h.1
  have e : ∀ i, w'.cell? ⟨0, i, none⟩ = w.cell? ⟨0, i, none⟩ := fun i => hk.cell (p := ⟨0, i, none⟩) h0 hn
  exact ⟨(e 0).trans h.1, (e 1).trans h.2.1, (e 2).trans h.2.2⟩
theorem Bend.fresh {w w' : World} (h : Bend w) (hk : Fresh w w') : Bend w' := h.kept hk (fun e => e)

end Go.Proofs.YtbppahmcjifflaaDoor
